/- Texts of ours, joined. -/
import Derived.Test.YthoaangmekkcmaaBkVb
import Derived.Test.YthoaangmekkcmaaBkW
import Derived.Test.YthoaangmekkcmaaBkY

-- joined
section
namespace Go.Proofs.Ythoaangmekkcmaa.Bk
open Nt Nd
set_option linter.unusedVariables false
set_option linter.unusedSimpArgs false
set_option linter.unusedSectionVars false
theorem w64 (x : Int) (h : 0 ≤ x) (h2 : x < 9223372036854775808) : Go.RowKit.wrap64 x = x := by
  unfold Go.RowKit.wrap64
  omega
theorem numZ_two (f : Int) : (numZ 2 f).length = 2 := rfl
section
variable {S : Sf} {r : Nat} {t : Int} {top : Nat} {ch : Nat → List Nat}
theorem root_has (T : Tree S r t top ch) : (S r).has = false ∧ (S r).right = 0 ∧ (S r).high = [] := by
  have hp := T.pos
  have hpost := hp.post
  have hh : (S r).has = false := by
    obtain ⟨h1, h2⟩ := hpost
    unfold hiN at h1
    cases h : (S r).has with
    | false => rfl
    | true => rw [h] at h1; cases h1
  exact ⟨hh, hp.ok.nr hh, (goods (fits_good hp.ok.ft).1).hn hh⟩
/-- What Split does to the root. -/
theorem tree_grow (T : Tree S r t top ch) (key : By) (hk : key.length = 9) (ht : top < 12) (f0 f1 : Nat) (h0 : 0 < f0) (h1 : 0 < f1) (hne : f0 ≠ f1) (hf0 : f0 < 256) (hf1 : f1 < 256) (fr0 : ∀ K, K ≤ top → f0 ∉ ch K) (fr1 : ∀ K, K ≤ top → f1 ∉ ch K) (h2 : 2 ≤ (S r).list.length) :
    splitR S r top key f0 f1 = (0, grw (S r) r f0 f1, po0) ∧ Tree (puts S (grw (S r) r f0 f1)) r t (top + 1) (up (up ch top [f0, f1]) (top + 1) [r]) ∧
    lists (puts S (grw (S r) r f0 f1)) (up (up ch top [f0, f1]) (top + 1) [r] 0) = lists S (ch 0) := by
  have hlow := low_le _ hk
  have hso := tree_so T key hlow top (Nat.le_refl _) (by omega)
  have hp := T.pos
  obtain ⟨r1, r2, r3⟩ := root_has T
  have hfd : fnd S key (ch top) = r := by
    rw [T.root]
    refine fnd_eq (A := []) (B := []) (by simp) ?_
    unfold cov
    rw [r1]
    rfl
  rw [hfd] at hso
  have hrb : r < 256 := T.bnd top r (Nat.le_refl _) hp.mem
  obtain ⟨ok1, k2, k3, ok2, k5, k6, k7, k8, k9, k10⟩ := hlf_ok hp.ok h2 f1 h1 hf1
  have e2 : { (hlf (S r) f1).2 with has := false, high := [], right := 0 } = (hlf (S r) f1).2 := by
    rw [r1] at k8
    rw [r2] at k6
    rw [r3] at k10
    generalize (hlf (S r) f1).2 = n2 at *
    cases n2
    simp only at k6 k8 k10
    rw [k6, k8, k10]
  have hlv : (S r).level = (top : Int) := hp.ok.lv
  have hsp : splitR S r top key f0 f1 = (0, grw (S r) r f0 f1, po0) := by
    unfold splitR
    rw [hso]
    dsimp only
    rw [if_pos rfl, if_neg (by omega), if_neg (by simp), if_neg (by omega)]
  have hgr : grw (S r) r f0 f1 = [((r : Int), { S r with level := ((top + 1 : Nat) : Int), list := [⟨low, numZ 2 f0, false⟩, ⟨(hlf (S r) f1).1.high, numZ 2 f1, false⟩] }), ((f0 : Int), (hlf (S r) f1).1), ((f1 : Int), (hlf (S r) f1).2)] := by
    unfold grw
    rw [e2, hlv, w64 _ (by omega) (by omega)]
    rfl
  have hhi : (hlf (S r) f1).1.has = true := by
    obtain ⟨y, a, x, b, -, e⟩ := mid_two (S r) f1 h2
    rw [e]
  have hlk : lt low (hlf (S r) f1).1.high = true := ok1.hi hhi
  have hg := (fits_good hp.ok.ft).1
  generalize hK : (hlf (S r) f1).1.high = k at *
  have okr : Ok t (top + 1) low { S r with level := ((top + 1 : Nat) : Int), list := [⟨low, numZ 2 f0, false⟩, ⟨k, numZ 2 f1, false⟩] } := by
    refine ⟨hp.ok.tr, rfl, ?_, fun e he => ?_, fun h => ?_, fun h => ?_, fun _ => r2, fun _ => ⟨_, _, rfl, rfl⟩⟩
    · unfold fitsB
      rw [Bool.and_eq_true]
      constructor
      · have hg2 := hg
        unfold Nd.goodB at hg2 ⊢
        simp only [Bool.and_eq_true] at hg2 ⊢
        obtain ⟨⟨⟨⟨⟨g1, g2⟩, g3⟩, g4⟩, g5⟩, g6⟩ := hg2
        refine ⟨⟨⟨⟨⟨g1, ?_⟩, g3⟩, g4⟩, g5⟩, ?_⟩
        · unfold inN
          simp only [Bool.and_eq_true, decide_eq_true_eq]
          omega
        · unfold gList
          rw [decide_eq_true (by simp), Bool.true_and]
          refine gTo_of (n := { S r with level := ((top + 1 : Nat) : Int), list := [⟨low, numZ 2 f0, false⟩, ⟨k, numZ 2 f1, false⟩] }) (by
            refine List.pairwise_cons.2 ⟨fun b hb => ?_, List.pairwise_cons.2 ⟨by simp, List.Pairwise.nil⟩⟩
            rw [List.mem_singleton.1 hb]
            exact hlk) (fun e he => ?_) _
          constructor
          · show (!(S r).has || _) = true
            rw [r1]
            rfl
          · have hpos : (0 : Int) < ((top + 1 : Nat) : Int) := by omega
            unfold gEnt
            dsimp only
            rw [if_pos hpos]
            rcases List.mem_cons.1 he with rfl | he
            · simp [numZ_two, low]
            · rw [List.mem_singleton.1 he]
              simp [numZ_two, k9]
      · apply decide_eq_true
        show 20 + sizeL [⟨low, numZ 2 f0, false⟩, ⟨k, numZ 2 f1, false⟩] ≤ 252
        simp [sizeL, numZ_two]
    · rcases List.mem_cons.1 he with rfl | he
      · exact le_refl _
      · rw [List.mem_singleton.1 he]
        exact low_le _ k9
    · rw [r1] at h; cases h
    · rw [r1] at h; cases h
  have hlead : ∀ K, top = K + 1 → ∀ e, e ∈ (hlf (S r) f1).1.list ∨ e ∈ (hlf (S r) f1).2.list → ∃ A d B, Pos S t K (ch K) A e.key d B ∧ childL e.val = d := by
    intro K hK' e he
    have hm : e ∈ (S r).list := by
      rw [← k7]
      rcases he with he | he
      · exact List.mem_append_left _ he
      · exact List.mem_append_right _ he
    refine T.lead K (by omega) r ?_ e hm
    rw [← hK']
    exact hp.mem
  have hG := T.grow hf0 hf1 hne (by omega) fr0 fr1 ok1 k2 k3 ok2 (k8.trans r1) okr r1 rfl hlead
  rw [hsp, hgr, puts_three S r f0 f1 _ _ _ hrb hf0 hf1]
  refine ⟨rfl, hG, ?_⟩
  have f0r : r ≠ f0 := fun e => fr0 top (Nat.le_refl _) (e ▸ hp.mem)
  have f1r : r ≠ f1 := fun e => fr1 top (Nat.le_refl _) (e ▸ hp.mem)
  rw [up_other _ _ _ _ (show 0 ≠ top + 1 by omega)]
  by_cases hz : top = 0
  · subst hz
    rw [up_same, T.root, lists_cons, lists_cons, lists_cons, up_same, up_other _ _ _ _ hne, up_same, ← k7]
    simp [lists]
  · rw [up_other _ _ _ _ (fun e => hz e.symm)]
    have f0A : f0 ∉ ch 0 := fr0 0 (Nat.zero_le _)
    have f1A : f1 ∉ ch 0 := fr1 0 (Nat.zero_le _)
    have rA : r ∉ ch 0 := fun h => hz (T.dis top 0 r (Nat.le_refl _) (Nat.zero_le _) hp.mem h)
    rw [lists_up f1A, lists_up f0A, lists_up rA]
/-- What Hang does: it leads there, led there already, or doesn't fit. -/
theorem tree_hang (T : Tree S r t top ch) (key : By) (hk : key.length = 9) (lv : Nat) (hlv : lv + 1 ≤ top) (ht : top < 299) (page : Nat) (hpg : page < 65536) {A' B' : List Nat} (hpos : Pos S t lv (ch lv) A' key page B') :
    ((hangR S r ((lv + 1 : Nat) : Int) key page).1 = 0 ∧ Tree (puts S (hangR S r ((lv + 1 : Nat) : Int) key page).2) r t top ch ∧ lists (puts S (hangR S r ((lv + 1 : Nat) : Int) key page).2) (ch 0) = lists S (ch 0) ∧
      (∀ L p, L ≤ top → p ∈ ch L → L ≠ lv + 1 → puts S (hangR S r ((lv + 1 : Nat) : Int) key page).2 p = S p)) ∨
    ((hangR S r ((lv + 1 : Nat) : Int) key page).1 = 12 ∧ 252 < 20 + sizeL (ins ⟨key, numZ 2 page, false⟩ (S (fnd S key (ch (lv + 1)))).list)) := by
  have hlow := low_le _ hk
  obtain ⟨A, l, B, hp, h1, h2, h3⟩ := (T.lvl (lv + 1) hlv).find key hlow
  have hso' : so S r ((lv + 1 : Nat) : Int) key = ⟨0, 0, (fnd S key (ch (lv + 1)) : Int), S (fnd S key (ch (lv + 1)))⟩ := tree_so T key hlow (lv + 1) hlv ht
  generalize hc : fnd S key (ch (lv + 1)) = c at *
  have hg := (fits_good hp.ok.ft).1
  have hsr := good_srt hg
  have hlen := fits_len hp.ok.ft
  have hcb : c < 256 := T.bnd (lv + 1) c hlv hp.mem
  obtain ⟨l0, m, l2, th⟩ := srt_three key hsr
  obtain ⟨e, he⟩ : ∃ e : Ent, e = ⟨key, numZ 2 page, false⟩ := ⟨_, rfl⟩
  have hek : e.key = key := by rw [he]
  have th' : Thr e.key (S c).list l0 m l2 := by rw [hek]; exact th
  unfold hangR
  rw [hso']
  dsimp only
  rw [if_pos rfl, th.plc, ← he]
  dsimp only
  rcases th.md with rfl | ⟨x, rfl, hx⟩
  · rw [if_neg (by decide)]
    have hw : wth (S c) e = { S c with list := ins e (S c).list } := by
      have h6 := th'.wth
      rw [← th'.ins] at h6
      unfold wth at h6 ⊢
      dsimp only at h6
      rw [h6]
    have hmem : ∀ x, x ∈ ins e (S c).list → x = e ∨ x ∈ (S c).list := by
      intro x hx
      unfold ins at hx
      rcases List.mem_append.1 hx with hx | hx
      · exact Or.inr (List.mem_filter.1 hx).1
      · rcases List.mem_cons.1 hx with hx | hx
        · exact Or.inl hx
        · exact Or.inr (List.mem_filter.1 hx).1
    have hlvl : (S c).level = ((lv + 1 : Nat) : Int) := hp.ok.lv
    have hgd : Nd.goodB (wth (S c) e) = true := by
      rw [hw]
      refine good_list hg _ ?_ (ins_srt hsr) fun x hx => ?_
      · have e1 := th'.ins
        have e2 : (S c).list.length = (l0 ++ ([] ++ l2)).length := by rw [← th.eq]
        rw [e1]
        simp only [List.length_append, List.length_cons, List.length_nil] at e2 ⊢
        omega
      · rcases hmem x hx with rfl | hx
        · refine ⟨by rw [hek]; exact h2, ?_⟩
          unfold gEnt
          rw [hlvl, if_pos (by omega), hek, he]
          simp [hk, numZ_two]
        · exact ⟨good_cov hg x hx, good_gEnt hg x hx⟩
    cases hf : fitsB (wth (S c) e) with
    | true =>
      left
      rw [if_pos rfl]
      dsimp only
      rw [puts_one S c _ hcb, hw]
      rw [hw] at hf
      have hfst : ∃ e0 r0, ins e (S c).list = e0 :: r0 ∧ e0.key = l := by
        obtain ⟨e0, r0, q1, q2⟩ := hp.ok.fst (by omega)
        have hl0 : l0 ≠ [] ∨ lt key e0.key = true := by
          cases l0 with
          | nil =>
            right
            refine th.hi e0 ?_
            have := th.eq
            rw [q1] at this
            rw [show l2 = e0 :: r0 from this.symm]
            exact List.mem_cons_self
          | cons a b => left; simp
        rcases hl0 with hl0 | hl0
        · cases l0 with
          | nil => exact absurd rfl hl0
          | cons a b =>
            have := th.eq
            rw [q1] at this
            rw [th'.ins]
            exact ⟨a, _, rfl, by rw [← (List.cons.inj this).1]; exact q2⟩
        · rw [q2] at hl0
          rw [not_lt.2 h1] at hl0
          cases hl0
      have t1 := T.put hlv hp (n := { S c with list := ins e (S c).list }) ⟨hp.ok.tr, hp.ok.lv, hf, fun x hx => by
        rcases hmem x hx with rfl | hx
        · rw [hek]; exact h1
        · exact hp.ok.lo x hx, hp.ok.hi, hp.ok.rt, hp.ok.nr, fun _ => hfst⟩ rfl rfl (fun K hK x hx => by
        obtain rfl : K = lv := by omega
        rcases hmem x hx with rfl | hx
        · refine ⟨A', page, B', by rw [hek]; exact hpos, ?_⟩
          rw [he]
          exact child_lead page hpg
        · exact T.lead K (by omega) c hp.mem x hx)
      refine ⟨rfl, t1, lists_up (fun h => ?_), fun L p hL hpm hne => up_other _ _ _ _ fun e => ?_⟩
      · have := T.dis (lv + 1) 0 c hlv (Nat.zero_le _) hp.mem h
        omega
      · exact hne (T.dis L (lv + 1) p hL hlv hpm (e ▸ hp.mem))
    | false =>
      right
      rw [if_neg (by decide)]
      refine ⟨rfl, ?_⟩
      unfold fitsB at hf
      rw [hgd, Bool.true_and, hw] at hf
      have := of_decide_eq_false hf
      unfold sizeN at this
      dsimp only at this
      omega
  · left
    rw [if_pos (by rfl)]
    dsimp only
    exact ⟨rfl, T, rfl, fun _ _ _ _ _ => rfl⟩
end
end Go.Proofs.Ythoaangmekkcmaa.Bk
end

-- joined
section
namespace Go.Proofs.Ythoaangmekkcmaa.Bk
open Nt Nd
set_option linter.unusedVariables false
set_option linter.unusedSimpArgs false
set_option linter.unusedSectionVars false
/-- What is left to do: the level of a node, where its keys begin, its page. -/
structure Du where
  lv : Nat
  key : By
  page : Nat
def kids (l : List Ent) : List Nat := l.map fun e => childL e.val
def dues (ps : List Du) (L : Nat) : List Nat := (ps.filter fun x => x.lv == L).map Du.page
theorem kids_app (a b : List Ent) : kids (a ++ b) = kids a ++ kids b := List.map_append
theorem dues_app (a b : List Du) (L : Nat) : dues (a ++ b) L = dues a L ++ dues b L := by
  unfold dues
  rw [List.filter_append, List.map_append]
theorem dues_one (x : Du) (L : Nat) : dues [x] L = if x.lv = L then [x.page] else [] := by
  unfold dues
  by_cases h : x.lv = L
  · rw [if_pos h, List.filter_cons_of_pos (by simpa using h)]; rfl
  · rw [if_neg h, List.filter_cons_of_neg (by simpa using h)]; rfl
section
variable {S S' : Sf} {r : Nat} {t : Int} {top L : Nat} {ch : Nat → List Nat}
/-- A level's row, parted. -/
theorem lists_part {A B : List Nat} {c f : Nat} {n1 n2 : Nod} (hd : (A ++ c :: B).Nodup) (hf : f ∉ A ++ c :: B) (h : n1.list ++ n2.list = (S c).list) :
    lists (up (up S c n1) f n2) (A ++ c :: f :: B) = lists S (A ++ c :: B) := by
  obtain ⟨hA, hB⟩ := nodup_mid hd
  have fA : f ∉ A := fun e => hf (by simp [e])
  have fB : f ∉ B := fun e => hf (by simp [e])
  have fc : c ≠ f := fun e => hf (by simp [e])
  rw [lists_app, lists_cons, lists_cons, lists_app, lists_cons, lists_up fA, lists_up hA, lists_up fB, lists_up hB, up_same, up_other _ _ _ _ fc, up_same, ← h]
  simp only [List.append_assoc]
theorem lists_out {ps : List Nat} (h : ∀ p, p ∈ ps → S' p = S p) : lists S' ps = lists S ps := by
  unfold lists
  rw [List.flatMap_def, List.flatMap_def, List.map_congr_left fun p hp => by rw [h p hp]]
/-- Who stands in a level stands there when a node has another list. -/
theorem pos_put {ps A' B' : List Nat} {l' : By} {d : Nat} (hhi : ∀ a, a ∈ ps → hiN (S' a) = hiN (S a)) (hl : Lvl S' t L ps) (h : Pos S t L ps A' l' d B') : Pos S' t L ps A' l' d B' := by
  have hl' := hl
  have e := h.eq
  rw [h.eq] at hl' ⊢
  exact hl'.at_ (h.low_eq.trans (endHi_congr fun a ha => hhi a (by rw [e]; simp [ha])).symm)
/-- Who stands in a level stands there when a node is parted. -/
theorem pos_part {A B : List Nat} {l : By} {c f : Nat} {n1 n2 : Nod} (hd : (A ++ c :: B).Nodup) (hf : f ∉ A ++ c :: B) (h : Pos S t L (A ++ c :: B) A l c B) (h3 : hiN n2 = hiN (S c))
    (hl : Lvl (up (up S c n1) f n2) t L (A ++ c :: f :: B)) {A' B' : List Nat} {l' : By} {d : Nat} (h' : Pos S t L (A ++ c :: B) A' l' d B') :
    ∃ A'' B'', Pos (up (up S c n1) f n2) t L (A ++ c :: f :: B) A'' l' d B'' := by
  obtain ⟨hA, hB⟩ := nodup_mid hd
  have hfA : f ∉ A := fun e => hf (by simp [e])
  have hfB : f ∉ B := fun e => hf (by simp [e])
  have hfc : f ≠ c := fun e => hf (by simp [e])
  have ec : up (up S c n1) f n2 c = n1 := by rw [up_other _ _ _ _ (fun e => hfc e.symm), up_same]
  have ef : up (up S c n1) f n2 f = n2 := up_same ..
  have eo : ∀ a, a ≠ c → a ≠ f → up (up S c n1) f n2 a = S a := fun a h1 h2 => by rw [up_other _ _ _ _ h2, up_other _ _ _ _ h1]
  generalize up (up S c n1) f n2 = S' at *
  have e := h'.eq
  rcases List.append_eq_append_iff.1 e with ⟨M, e1, e2⟩ | ⟨M, e1, e2⟩
  · cases M with
    | nil =>
      rw [List.append_nil] at e1
      obtain ⟨rfl, rfl⟩ := List.cons.inj e2
      subst e1
      refine ⟨_, _, hl.at_ ?_⟩
      rw [h'.low_eq]
      exact (endHi_congr fun a ha => by rw [eo a (fun e => hA (e ▸ ha)) (fun e => hfA (e ▸ ha))]).symm
    | cons x M =>
      rw [List.cons_append] at e2
      obtain ⟨rfl, rfl⟩ := List.cons.inj e2
      subst e1
      refine ⟨A ++ c :: f :: M, B', ?_⟩
      have hl' := hl
      rw [show A ++ c :: f :: (M ++ d :: B') = (A ++ c :: f :: M) ++ d :: B' by simp] at hl' ⊢
      refine hl'.at_ ?_
      rw [h'.low_eq, endHi_app, endHi_app]
      show endHi S (hiN (S c)) M = endHi S' (hiN (S' f)) M
      rw [ef, h3]
      exact (endHi_congr fun a ha => by rw [eo a (fun e => hB (e ▸ (by simp [ha]))) (fun e => hfB (e ▸ (by simp [ha])))]).symm
  · cases M with
    | nil =>
      rw [List.append_nil] at e1
      obtain ⟨rfl, rfl⟩ := List.cons.inj e2
      subst e1
      refine ⟨_, _, hl.at_ ?_⟩
      rw [h'.low_eq]
      exact (endHi_congr fun a ha => by rw [eo a (fun e => hA (e ▸ ha)) (fun e => hfA (e ▸ ha))]).symm
    | cons x M =>
      rw [List.cons_append] at e2
      obtain ⟨rfl, rfl⟩ := List.cons.inj e2
      subst e1
      refine ⟨A', M ++ c :: f :: B, ?_⟩
      have hl' := hl
      rw [show (A' ++ d :: M) ++ c :: f :: B = A' ++ d :: (M ++ c :: f :: B) by simp] at hl' ⊢
      refine hl'.at_ ?_
      rw [h'.low_eq]
      exact (endHi_congr fun a ha => by rw [eo a (fun e => hA (e ▸ (by simp [ha]))) (fun e => hfA (e ▸ (by simp [ha])))]).symm
/-- In a level two nodes don't begin at the same key. -/
theorem pos_low {ps A A' B B' : List Nat} {l : By} {c d : Nat} (h : Pos S t L ps A l c B) (h' : Pos S t L ps A' l d B') : c = d ∧ A = A' ∧ B = B' := by
  have e := h.eq.symm.trans h'.eq
  rcases List.append_eq_append_iff.1 e with ⟨M, e1, e2⟩ | ⟨M, e1, e2⟩
  · cases M with
    | nil =>
      obtain ⟨e3, e4⟩ := List.cons.inj e2
      exact ⟨e3, by simpa using e1.symm, e4⟩
    | cons x M =>
      exfalso
      obtain ⟨p0, h1⟩ := h'.pre
      rw [e1] at h1
      obtain ⟨m, q, h2, h3⟩ := seg_app.1 h1
      have := (seg_end h2).trans h.low_eq.symm
      subst this
      have := seg_lt h3
      rw [lt_irrefl] at this
      cases this
  · cases M with
    | nil =>
      obtain ⟨e3, e4⟩ := List.cons.inj e2
      exact ⟨e3.symm, by simpa using e1, e4.symm⟩
    | cons x M =>
      exfalso
      obtain ⟨p0, h1⟩ := h.pre
      rw [e1] at h1
      obtain ⟨m, q, h2, h3⟩ := seg_app.1 h1
      have := (seg_end h2).trans h'.low_eq.symm
      subst this
      have := seg_lt h3
      rw [lt_irrefl] at this
      cases this
end
end Go.Proofs.Ythoaangmekkcmaa.Bk
end

-- joined
section
namespace Go.Proofs.Ythoaangmekkcmaa.Wk
open Nt Nd Bk
set_option linter.unusedVariables false
set_option linter.unusedSimpArgs false
set_option linter.unusedSectionVars false
structure Gn (S : Sf) (l : List Ent) (next : Nat) (top : Nat) (ch : Nat → List Nat) : Prop where
  tree : Tree S 3 0 top ch
  one : top ≤ 1
  row : lists S (ch 0) = l
  v40 : ∀ e, e ∈ l → e.val.length = 40
  pg : ∀ K p, K ≤ top → p ∈ ch K → p = 3 ∨ (4 ≤ p ∧ p < next)
  cnt : next = 2 + 2 * (ch 0).length
  two : top = 1 → ∀ a, a ∈ ch 0 → 2 ≤ (S a).list.length
theorem mem_ins {e : Ent} {l : List Ent} : ∀ x, x ∈ ins e l → x = e ∨ x ∈ l := by
  intro x hx
  unfold ins at hx
  rcases List.mem_append.1 hx with hx | hx
  · exact Or.inr (List.mem_filter.1 hx).1
  · rcases List.mem_cons.1 hx with hx | hx
    · exact Or.inl hx
    · exact Or.inr (List.mem_filter.1 hx).1
theorem ins_len {e : Ent} {l : List Ent} (h : Srt l) : (ins e l).length ≤ l.length + 1 := by
  obtain ⟨l0, m, l2, th⟩ := srt_three e.key h
  have e2 : l.length = (l0 ++ (m ++ l2)).length := by rw [← th.eq]
  rw [th.ins]
  simp only [List.length_append, List.length_cons] at e2 ⊢
  omega
section
variable {S : Sf} {l : List Ent} {next top : Nat} {ch : Nat → List Nat}
theorem Gn.zero (h : Gn S l next top ch) (ht : top = 0) : ch 0 = [3] := by
  subst ht
  exact h.tree.root
theorem mem_lists {S : Sf} {A : List Nat} {a : Nat} (ha : a ∈ A) (e : Ent) (he : e ∈ (S a).list) : e ∈ lists S A := List.mem_flatMap.2 ⟨a, ha, he⟩
theorem Gn.leaf (h : Gn S l next top ch) (key : By) (hk : key.length = 9) : fnd S key (ch 0) ∈ ch 0 := by
  obtain ⟨A, l', B, hp, -⟩ := (h.tree.lvl 0 (Nat.zero_le _)).find key (low_le _ hk)
  exact hp.mem
end
end Go.Proofs.Ythoaangmekkcmaa.Wk
end
