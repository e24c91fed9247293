/- Texts of ours, joined. -/
import Derived.Test.YthoaangmekkcmaaBkVd

-- joined
section
namespace Go.Proofs.Ythoaangmekkcmaa.Bk
open Nt Nd
set_option linter.unusedVariables false
set_option linter.unusedSimpArgs false
set_option linter.unusedSectionVars false
structure Wg (S : Sf) (l : List Ent) (ps : List Du) (next top : Nat) (ch : Nat → List Nat) : Prop where
  tree : Tree S 3 2 top ch
  row : lists S (ch 0) = l
  v59 : ∀ e, e ∈ l → e.val.length ≤ 59
  pg : ∀ K p, K ≤ top → p ∈ ch K → p = 3 ∨ (4 ≤ p ∧ p < next)
  nx : 4 ≤ next
  out : ∀ p, (∀ K, K ≤ top → p ∉ ch K) → S p = Nod.none
  po : ∀ x, x ∈ ps → x.lv < top ∧ x.key.length = 9 ∧ ∃ A B, Pos S 2 x.lv (ch x.lv) A x.key x.page B
  pm : ∀ L, L < top → (kids (lists S (ch (L + 1))) ++ dues ps L).Perm (ch L)
  mn : ∀ L, 2 ≤ L → L < top → ∀ a, a ∈ ch L → 8 ≤ (S a).list.length
  m2 : 2 ≤ top → 2 ≤ (S 3).list.length
theorem lists_ge {S : Sf} (k : Nat) : ∀ {A : List Nat}, (∀ a, a ∈ A → k ≤ (S a).list.length) → k * A.length ≤ (lists S A).length
  | [], _ => by simp
  | a :: A, h => by
    have h1 := h a List.mem_cons_self
    have h2 := lists_ge k (fun b hb => h b (List.mem_cons_of_mem _ hb))
    rw [lists_cons, List.length_append, List.length_cons, Nat.mul_succ]
    omega
section
variable {S S' : Sf} {l : List Ent} {ps : List Du} {next top : Nat} {ch : Nat → List Nat}
theorem Wg.above (h : Wg S l ps next top ch) {L : Nat} (hL : L < top) : (lists S (ch (L + 1))).length ≤ (ch L).length := by
  have := (h.pm L hL).length_eq
  rw [List.length_append, kids, List.length_map] at this
  omega
theorem Wg.most (h : Wg S l ps next top ch) {L : Nat} (hL : L ≤ top) : (ch L).length ≤ 256 := nodup_len 256 _ (h.tree.nod L hL) (fun x hx => h.tree.bnd L x hL hx)
theorem Wg.up8 (h : Wg S l ps next top ch) {L : Nat} (h2 : 1 ≤ L) (hL : L + 1 < top) : 8 * (ch (L + 1)).length ≤ (ch L).length :=
  Nat.le_trans (lists_ge 8 (h.mn (L + 1) (by omega) hL)) (h.above (by omega))
theorem Wg.four (h : Wg S l ps next top ch) : top ≤ 4 := by
  apply Nat.le_of_not_lt
  intro hc
  obtain ⟨k, rfl⟩ : ∃ k, top = k + 5 := ⟨top - 5, by omega⟩
  have a0 : 2 ≤ (ch (k + 4)).length := by
    have e := h.above (L := k + 4) (by omega)
    have h2 := h.m2 (by omega)
    rw [h.tree.root, lists_cons, List.length_append] at e
    omega
  have a1 : 8 * (ch (k + 4)).length ≤ (ch (k + 3)).length := h.up8 (L := k + 3) (by omega) (by omega)
  have a2 : 8 * (ch (k + 3)).length ≤ (ch (k + 2)).length := h.up8 (L := k + 2) (by omega) (by omega)
  have a3 : 8 * (ch (k + 2)).length ≤ (ch (k + 1)).length := h.up8 (L := k + 1) (by omega) (by omega)
  have a4 := h.most (L := k + 1) (by omega)
  omega
theorem Wg.free (h : Wg S l ps next top ch) (f : Nat) (hf : next ≤ f) : ∀ K, K ≤ top → f ∉ ch K := by
  intro K hK hm
  have h1 := h.nx
  rcases h.pg K f hK hm with h3 | h3 <;> omega
theorem Wg.srt (h : Wg S l ps next top ch) : Srt l := by
  rw [← h.row]
  exact tree_srt h.tree
/-- A node that isn't the root is parted. -/
theorem Wg.part1 (h : Wg S l ps next top ch) (key : By) (hk : key.length = 9) (lv : Nat) (hlv : lv < top) (hn : next + 1 < 256) (h2 : 2 ≤ (S (fnd S key (ch lv))).list.length) (h16 : 2 ≤ lv → 16 ≤ (S (fnd S key (ch lv))).list.length) :
    ∃ cs ch' x, splitR S 3 lv key next ((next + 1 : Nat) : Int) = (0, cs, ((2 : Int), ((x.lv + 1 : Nat) : Int), x.key, (x.page : Int))) ∧ Wg (puts S cs) l (ps ++ [x]) (next + 2) top ch' ∧
      2 * (puts S cs (fnd (puts S cs) key (ch' lv))).list.length ≤ (S (fnd S key (ch lv))).list.length + 1 := by
  have ht := h.four
  have hnx := h.nx
  obtain ⟨A, l0, B, hp, hs, t1, t2, t3⟩ := tree_part h.tree key hk lv hlv (by omega) next ((next + 1 : Nat) : Int) (by omega) (by omega) (h.free _ (Nat.le_refl _)) h2
  have hcov : (∀ a, a ∈ A → cov (S a) key = false) ∧ cov (S (fnd S key (ch lv))) key = true := by
    obtain ⟨A2, l2, B2, g0, g1, g2, g3⟩ := (h.tree.lvl lv (by omega)).find key (low_le _ hk)
    obtain ⟨e1, -, -⟩ := hp.uniq (h.tree.nod lv (by omega)) g0
    exact ⟨by rw [e1]; exact g3, g2⟩
  have hmem := hp.mem
  have hcb : fnd S key (ch lv) < 256 := h.tree.bnd lv _ (by omega) hmem
  rw [hs] at t1 t2 t3
  generalize hc : fnd S key (ch lv) = c at *
  obtain ⟨ok1, k2, k3, ok2, k5, k6, k7, k8, k9, k10⟩ := hlf_ok hp.ok h2 next (by omega) (by omega)
  obtain ⟨y, a0, x0, b0, em, eh⟩ := mid_two (S c) (next : Int) h2
  have hl1 : (hlf (S c) (next : Int)).1.list.length = (S c).list.length / 2 := by
    show ((S c).list.take ((S c).list.length / 2)).length = _
    rw [List.length_take]
    omega
  have hl2 : (hlf (S c) (next : Int)).2.list.length = (S c).list.length - (S c).list.length / 2 := by
    show ((S c).list.drop ((S c).list.length / 2)).length = _
    rw [List.length_drop]
  have hn1 : (hlf (S c) (next : Int)).1.has = true := by rw [eh]
  have hfree := h.free next (Nat.le_refl _)
  have hd := h.tree.nod lv (by omega)
  have hfl := hfree lv (by omega)
  have heq := hp.eq
  dsimp only at t1 t2 t3
  rw [puts_two S c next _ _ hcb (by omega)] at t1 t2 t3
  refine ⟨_, up ch lv (A ++ c :: next :: B), ⟨lv, (hlf (S c) (next : Int)).1.high, next⟩, Eq.trans hs (by rw [w64 _ (by omega) (by omega)]; rfl), ?_, ?_⟩
  · rw [puts_two S c next _ _ hcb (by omega)]
    have hcn : ∀ K, K ≤ top → K ≠ lv → ∀ p, p ∈ ch K → p ≠ c ∧ p ≠ next := fun K hK hne p hp' => ⟨fun e => hne (h.tree.dis K lv p hK (by omega) hp' (e ▸ hmem)), fun e => hfree K hK (e ▸ hp')⟩
    have hso : ∀ K, K ≤ top → K ≠ lv → ∀ p, p ∈ ch K → up (up S c (hlf (S c) (next : Int)).1) next (hlf (S c) (next : Int)).2 p = S p := fun K hK hne p hp' => by
      obtain ⟨g1, g2⟩ := hcn K hK hne p hp'
      rw [up_other _ _ _ _ g2, up_other _ _ _ _ g1]
    have hll : lists (up (up S c (hlf (S c) (next : Int)).1) next (hlf (S c) (next : Int)).2) (A ++ c :: next :: B) = lists S (ch lv) := by
      rw [heq]
      exact lists_part (heq ▸ hd) (heq ▸ hfl) k7
    have hnew : ∀ p, p ∈ A ++ c :: next :: B ↔ p = next ∨ p ∈ ch lv := fun p => by
      rw [heq]
      simp only [List.mem_append, List.mem_cons]
      constructor
      · rintro (g | g | g | g)
        · exact Or.inr (Or.inl g)
        · exact Or.inr (Or.inr (Or.inl g))
        · exact Or.inl g
        · exact Or.inr (Or.inr (Or.inr g))
      · rintro (g | g | g | g)
        · exact Or.inr (Or.inr (Or.inl g))
        · exact Or.inl g
        · exact Or.inr (Or.inl g)
        · exact Or.inr (Or.inr (Or.inr g))
    have hrt : (3 : Nat) ∈ ch top := by rw [h.tree.root]; simp
    have e3 : up (up S c (hlf (S c) (next : Int)).1) next (hlf (S c) (next : Int)).2 3 = S 3 := hso top (Nat.le_refl _) (by omega) 3 hrt
    have hSc : ∀ p, p ≠ c → p ≠ next → up (up S c (hlf (S c) (next : Int)).1) next (hlf (S c) (next : Int)).2 p = S p := fun p g1 g2 => by rw [up_other _ _ _ _ g2, up_other _ _ _ _ g1]
    have ecc : up (up S c (hlf (S c) (next : Int)).1) next (hlf (S c) (next : Int)).2 c = (hlf (S c) (next : Int)).1 := by rw [up_other _ _ _ _ (fun e => hfl (by rw [← e]; exact hmem)), up_same]
    have enn : up (up S c (hlf (S c) (next : Int)).1) next (hlf (S c) (next : Int)).2 next = (hlf (S c) (next : Int)).2 := up_same ..
    have hkeep : ∀ {A' B' : List Nat} {l' : By} {d : Nat}, Pos S 2 lv (ch lv) A' l' d B' → ∃ A'' B'', Pos (up (up S c (hlf (S c) (next : Int)).1) next (hlf (S c) (next : Int)).2) 2 lv (A ++ c :: next :: B) A'' l' d B'' := fun h' => by
      rw [heq] at h' hp hd hfl
      exact pos_part hd hfl hp k5 t2.lvl h'
    generalize up (up S c (hlf (S c) (next : Int)).1) next (hlf (S c) (next : Int)).2 = S' at *
    refine ⟨t1, by rw [← h.row]; exact t3, h.v59, fun K p hK hpm => ?_, by omega, fun p hp' => ?_, fun x hx => ?_, fun L hL => ?_, fun L hL2 hL a ha => ?_, fun ht2 => by rw [e3]; exact h.m2 ht2⟩
    · by_cases hK0 : K = lv
      · subst hK0
        rw [up_same] at hpm
        rcases (hnew p).1 hpm with g | g
        · omega
        · have := h.pg K p hK g
          omega
      · rw [up_other _ _ _ _ hK0] at hpm
        have := h.pg K p hK hpm
        omega
    · have g1 : p ∉ A ++ c :: next :: B := by
        have := hp' lv (by omega)
        rwa [up_same] at this
      rw [hSc p (fun e => g1 ((hnew p).2 (Or.inr (e ▸ hmem)))) (fun e => g1 ((hnew p).2 (Or.inl e)))]
      refine h.out p fun K hK g => ?_
      by_cases hK0 : K = lv
      · subst hK0
        exact g1 ((hnew p).2 (Or.inr g))
      · have := hp' K hK
        rw [up_other _ _ _ _ hK0] at this
        exact this g
    · rcases List.mem_append.1 hx with hx | hx
      · obtain ⟨g1, g2, A', B', g3⟩ := h.po x hx
        refine ⟨g1, g2, ?_⟩
        by_cases hK0 : x.lv = lv
        · rw [hK0] at g3 ⊢
          rw [up_same]
          exact hkeep g3
        · rw [up_other _ _ _ _ hK0]
          exact ⟨A', B', g3.congr (hso x.lv (by omega) hK0)⟩
      · rw [List.mem_singleton.1 hx]
        refine ⟨hlv, k9, A ++ [c], B, ?_⟩
        dsimp only
        rw [up_same]
        exact t2
    · have hk' : lists S' (up ch lv (A ++ c :: next :: B) (L + 1)) = lists S (ch (L + 1)) := by
        by_cases hK0 : L + 1 = lv
        · rw [hK0, up_same]; exact hll
        · rw [up_other _ _ _ _ hK0]; exact lists_out (hso (L + 1) (by omega) hK0)
      rw [hk', dues_app, dues_one, ← List.append_assoc]
      dsimp only
      by_cases hK0 : lv = L
      · subst hK0
        rw [if_pos rfl, up_same]
        have g := (h.pm lv hL).append_right [next]
        refine g.trans ?_
        rw [heq]
        refine List.perm_append_comm.trans ?_
        show (next :: (A ++ c :: B)).Perm (A ++ c :: next :: B)
        rw [show A ++ c :: next :: B = (A ++ [c]) ++ next :: B by simp, show A ++ c :: B = (A ++ [c]) ++ B by simp]
        exact List.perm_middle.symm
      · rw [if_neg hK0, List.append_nil, up_other _ _ _ _ (fun e => hK0 e.symm)]
        exact h.pm L hL
    · by_cases hK0 : L = lv
      · subst hK0
        rw [up_same] at ha
        have h16' := h16 hL2
        by_cases g1 : a = next
        · rw [g1, enn, hl2]; omega
        · by_cases g2 : a = c
          · rw [g2, ecc, hl1]; omega
          · rw [hSc a g2 g1]
            rcases (hnew a).1 ha with g | g
            · exact absurd g g1
            · exact h.mn L hL2 hL a g
      · rw [up_other _ _ _ _ hK0] at ha
        rw [hso L (by omega) hK0 a ha]
        exact h.mn L hL2 hL a ha
  · rw [puts_two S c next _ _ hcb (by omega), up_same]
    have ecc : up (up S c (hlf (S c) (next : Int)).1) next (hlf (S c) (next : Int)).2 c = (hlf (S c) (next : Int)).1 := by rw [up_other _ _ _ _ (fun e => hfl (by rw [← e]; exact hmem)), up_same]
    have enn : up (up S c (hlf (S c) (next : Int)).1) next (hlf (S c) (next : Int)).2 next = (hlf (S c) (next : Int)).2 := up_same ..
    have hA : ∀ a, a ∈ A → cov (up (up S c (hlf (S c) (next : Int)).1) next (hlf (S c) (next : Int)).2 a) key = false := fun a ha => by
      rw [heq] at hd hfl
      rw [up_other _ _ _ _ (fun e => hfl (by rw [← e]; simp [ha])), up_other _ _ _ _ (fun e => (nodup_mid hd).1 (by rw [← e]; exact ha))]
      exact hcov.1 a ha
    cases hc1 : cov (hlf (S c) (next : Int)).1 key with
    | true =>
      rw [fnd_eq hA (by rw [ecc]; exact hc1), ecc, hl1]
      omega
    | false =>
      have hc2 : cov (hlf (S c) (next : Int)).2 key = true := by
        have g := hcov.2
        unfold cov at g ⊢
        rw [k8, k10]
        exact g
      rw [show A ++ c :: next :: B = (A ++ [c]) ++ next :: B by simp, fnd_eq (fun a ha => ?_) (by rw [enn]; exact hc2), enn, hl2]
      · omega
      · rcases List.mem_append.1 ha with ha | ha
        · exact hA a ha
        · rw [List.mem_singleton.1 ha, ecc]; exact hc1
end
end Go.Proofs.Ythoaangmekkcmaa.Bk
end

-- joined
section
namespace Go.Proofs.Ythoaangmekkcmaa.Bk
open Nt Nd
set_option linter.unusedVariables false
set_option linter.unusedSimpArgs false
set_option linter.unusedSectionVars false
section
variable {S S' : Sf} {l : List Ent} {ps : List Du} {next top : Nat} {ch : Nat → List Nat}
/-- The root is parted. -/
theorem Wg.part0 (h : Wg S l ps next top ch) (key : By) (hk : key.length = 9) (hn : next + 1 < 256) (h2 : 2 ≤ (S 3).list.length) (h16 : 2 ≤ top → 16 ≤ (S 3).list.length) :
    ∃ cs ch', splitR S 3 top key next ((next + 1 : Nat) : Int) = (0, cs, po0) ∧ Wg (puts S cs) l ps (next + 2) (top + 1) ch' ∧
      2 * (puts S cs (fnd (puts S cs) key (ch' top))).list.length ≤ (S 3).list.length + 1 := by
  have ht := h.four
  have hnx := h.nx
  have fr0 := h.free next (Nat.le_refl _)
  have fr1 := h.free (next + 1) (by omega)
  obtain ⟨t1, t2, t3⟩ := tree_grow h.tree key hk (by omega) next (next + 1) (by omega) (by omega) (by omega) (by omega) hn fr0 fr1 h2
  have hp := h.tree.pos
  obtain ⟨ok1, k2, k3, ok2, k5, k6, k7, k8, k9, k10⟩ := hlf_ok hp.ok h2 (next + 1) (by omega) hn
  have hl1 : (hlf (S 3) ((next + 1 : Nat) : Int)).1.list.length = (S 3).list.length / 2 := by
    show ((S 3).list.take ((S 3).list.length / 2)).length = _
    rw [List.length_take]
    omega
  have hl2 : (hlf (S 3) ((next + 1 : Nat) : Int)).2.list.length = (S 3).list.length - (S 3).list.length / 2 := by
    show ((S 3).list.drop ((S 3).list.length / 2)).length = _
    rw [List.length_drop]
  obtain ⟨r1, r2, r3⟩ := root_has h.tree
  have hrt : (3 : Nat) ∈ ch top := by rw [h.tree.root]; simp
  have hg : grw (S 3) ((3 : Nat) : Int) (next : Int) ((next + 1 : Nat) : Int) = [(((3 : Nat) : Int), { S 3 with level := Go.RowKit.wrap64 ((S 3).level + 1), list := [⟨low, numZ 2 (next : Int), false⟩, ⟨(hlf (S 3) ((next + 1 : Nat) : Int)).1.high, numZ 2 ((next + 1 : Nat) : Int), false⟩] }), ((next : Int), (hlf (S 3) ((next + 1 : Nat) : Int)).1), (((next + 1 : Nat) : Int), { (hlf (S 3) ((next + 1 : Nat) : Int)).2 with has := false, high := [], right := 0 })] := rfl
  have hpt := puts_three S 3 next (next + 1) { S 3 with level := Go.RowKit.wrap64 ((S 3).level + 1), list := [⟨low, numZ 2 (next : Int), false⟩, ⟨(hlf (S 3) ((next + 1 : Nat) : Int)).1.high, numZ 2 ((next + 1 : Nat) : Int), false⟩] } (hlf (S 3) ((next + 1 : Nat) : Int)).1 { (hlf (S 3) ((next + 1 : Nat) : Int)).2 with has := false, high := [], right := 0 } (by omega) (by omega) hn
  rw [← hg] at hpt
  have e3 : puts S (grw (S 3) ((3 : Nat) : Int) (next : Int) ((next + 1 : Nat) : Int)) 3 = { S 3 with level := Go.RowKit.wrap64 ((S 3).level + 1), list := [⟨low, numZ 2 (next : Int), false⟩, ⟨(hlf (S 3) ((next + 1 : Nat) : Int)).1.high, numZ 2 ((next + 1 : Nat) : Int), false⟩] } := by
    rw [hpt, up_other _ _ _ _ (by omega), up_other _ _ _ _ (by omega), up_same]
  have e4 : puts S (grw (S 3) ((3 : Nat) : Int) (next : Int) ((next + 1 : Nat) : Int)) next = (hlf (S 3) ((next + 1 : Nat) : Int)).1 := by
    rw [hpt, up_other _ _ _ _ (by omega), up_same]
  have e5 : puts S (grw (S 3) ((3 : Nat) : Int) (next : Int) ((next + 1 : Nat) : Int)) (next + 1) = { (hlf (S 3) ((next + 1 : Nat) : Int)).2 with has := false, high := [], right := 0 } := by
    rw [hpt, up_same]
  have eo : ∀ p, p ≠ 3 → p ≠ next → p ≠ next + 1 → puts S (grw (S 3) ((3 : Nat) : Int) (next : Int) ((next + 1 : Nat) : Int)) p = S p := fun p g1 g2 g3 => by
    rw [hpt, up_other _ _ _ _ g3, up_other _ _ _ _ g2, up_other _ _ _ _ g1]
  have l5 : (puts S (grw (S 3) ((3 : Nat) : Int) (next : Int) ((next + 1 : Nat) : Int)) (next + 1)).list = (hlf (S 3) ((next + 1 : Nat) : Int)).2.list := by rw [e5]
  have l3 : (puts S (grw (S 3) ((3 : Nat) : Int) (next : Int) ((next + 1 : Nat) : Int)) 3).list = [⟨low, numZ 2 (next : Int), false⟩, ⟨(hlf (S 3) ((next + 1 : Nat) : Int)).1.high, numZ 2 ((next + 1 : Nat) : Int), false⟩] := by rw [e3]
  refine ⟨_, up (up ch top [next, next + 1]) (top + 1) [3], t1, ?_, ?_⟩
  · generalize puts S (grw (S 3) ((3 : Nat) : Int) (next : Int) ((next + 1 : Nat) : Int)) = S' at *
    have hso : ∀ K, K < top → ∀ p, p ∈ ch K → S' p = S p := fun K hK p hpm => by
      refine eo p (fun e => ?_) (fun e => fr0 K (by omega) (by rw [← e]; exact hpm)) (fun e => fr1 K (by omega) (by rw [← e]; exact hpm))
      have := h.tree.dis K top p (by omega) (Nat.le_refl _) hpm (by rw [e]; exact hrt)
      omega
    have c1 : up (up ch top [next, next + 1]) (top + 1) [3] (top + 1) = [3] := up_same ..
    have c0 : up (up ch top [next, next + 1]) (top + 1) [3] top = [next, next + 1] := by rw [up_other _ _ _ _ (by omega), up_same]
    have cL : ∀ K, K < top → up (up ch top [next, next + 1]) (top + 1) [3] K = ch K := fun K hK => by rw [up_other _ _ _ _ (by omega), up_other _ _ _ _ (by omega)]
    generalize up (up ch top [next, next + 1]) (top + 1) [3] = ch' at *
    have hrow : lists S' [next, next + 1] = (S 3).list := by
      rw [lists_cons, lists_cons, e4, l5, ← k7]
      show _ ++ (_ ++ []) = _
      rw [List.append_nil]
    refine ⟨t2, by rw [← h.row]; exact t3, h.v59, fun K p hK hpm => ?_, by omega, fun p hp' => ?_, fun x hx => ?_, fun L hL => ?_, fun L hL2 hL a ha => ?_, fun _ => by rw [l3]; simp⟩
    · by_cases g : K < top
      · rw [cL K g] at hpm
        have := h.pg K p (by omega) hpm
        omega
      · by_cases g2 : K = top
        · subst g2
          rw [c0] at hpm
          simp at hpm
          omega
        · obtain rfl : K = top + 1 := by omega
          rw [c1] at hpm
          exact Or.inl (List.mem_singleton.1 hpm)
    · have g1 := hp' (top + 1) (Nat.le_refl _)
      have g2 := hp' top (by omega)
      rw [c1] at g1
      rw [c0] at g2
      simp at g1 g2
      rw [eo p g1 g2.1 g2.2]
      refine h.out p fun K hK g => ?_
      by_cases hK0 : K < top
      · have := hp' K (by omega)
        rw [cL K hK0] at this
        exact this g
      · obtain rfl : K = top := by omega
        rw [h.tree.root] at g
        exact g1 (List.mem_singleton.1 g)
    · obtain ⟨g1, g2, A', B', g3⟩ := h.po x hx
      refine ⟨by omega, g2, A', B', ?_⟩
      rw [cL x.lv g1]
      exact g3.congr (hso x.lv g1)
    · by_cases g : L = top
      · subst g
        rw [c1, c0]
        have hno : dues ps L = [] := by
          unfold dues
          rw [List.filter_eq_nil_iff.2]
          · rfl
          · intro x hx
            have := (h.po x hx).1
            simp
            omega
        rw [hno, List.append_nil, lists_cons, l3]
        show (kids [_, _]).Perm _
        unfold kids
        rw [List.map_cons, List.map_cons, List.map_nil]
        dsimp only
        rw [child_lead next (by omega), child_lead (next + 1) (by omega)]
      · have hL' : L < top := by omega
        rw [cL L hL']
        have hk' : lists S' (ch' (L + 1)) = lists S (ch (L + 1)) := by
          by_cases g2 : L + 1 < top
          · rw [cL _ g2]; exact lists_out (hso _ g2)
          · obtain rfl : top = L + 1 := by omega
            rw [c0, hrow, h.tree.root, lists_cons]
            exact (List.append_nil _).symm
        rw [hk']
        exact h.pm L hL'
    · by_cases g : L < top
      · rw [cL L g] at ha
        rw [hso L g a ha]
        exact h.mn L hL2 g a ha
      · obtain rfl : L = top := by omega
        have := h16 hL2
        rw [c0] at ha
        rcases List.mem_cons.1 ha with ha | ha
        · rw [ha, e4, hl1]; omega
        · rw [List.mem_singleton.1 ha, l5, hl2]; omega
  · rw [up_other _ _ _ _ (show top ≠ top + 1 by omega), up_same]
    generalize puts S (grw (S 3) ((3 : Nat) : Int) (next : Int) ((next + 1 : Nat) : Int)) = S' at *
    cases hc1 : cov (hlf (S 3) ((next + 1 : Nat) : Int)).1 key with
    | true =>
      have : fnd S' key [next, next + 1] = next := fnd_eq (A := []) (B := [next + 1]) (by simp) (by rw [e4]; exact hc1)
      rw [this, e4, hl1]
      omega
    | false =>
      have : fnd S' key [next, next + 1] = next + 1 := fnd_eq (A := [next]) (B := []) (c := next + 1) (fun a ha => by rw [List.mem_singleton.1 ha, e4]; exact hc1) (by rw [e5]; rfl)
      rw [this, l5, hl2]
      omega
/-- A node is parted. -/
theorem Wg.part (h : Wg S l ps next top ch) (key : By) (hk : key.length = 9) (lv : Nat) (hlv : lv ≤ top) (hn : next + 1 < 256) (h2 : 2 ≤ (S (fnd S key (ch lv))).list.length) (h16 : 2 ≤ lv → 16 ≤ (S (fnd S key (ch lv))).list.length) :
    ∃ cs po ps' top' ch', splitR S 3 lv key next ((next + 1 : Nat) : Int) = (0, cs, po) ∧ ((po = po0 ∧ ps' = ps) ∨ ∃ x : Du, po = ((2 : Int), ((x.lv + 1 : Nat) : Int), x.key, (x.page : Int)) ∧ ps' = ps ++ [x]) ∧ Wg (puts S cs) l ps' (next + 2) top' ch' ∧ lv ≤ top' ∧
      2 * (puts S cs (fnd (puts S cs) key (ch' lv))).list.length ≤ (S (fnd S key (ch lv))).list.length + 1 := by
  rcases Nat.lt_or_eq_of_le hlv with g | g
  · obtain ⟨cs, ch', x, g1, g2, g3⟩ := h.part1 key hk lv g hn h2 h16
    exact ⟨cs, _, _, top, ch', g1, Or.inr ⟨x, rfl, rfl⟩, g2, hlv, g3⟩
  · subst g
    have e : fnd S key (ch lv) = 3 := by
      obtain ⟨A, l', B, hp, -⟩ := (h.tree.lvl lv (Nat.le_refl _)).find key (low_le _ hk)
      have := hp.mem
      rw [h.tree.root] at this ⊢
      exact List.mem_singleton.1 this
    rw [e] at h2 h16 ⊢
    obtain ⟨cs, ch', g1, g2, g3⟩ := h.part0 key hk hn h2 h16
    exact ⟨cs, _, _, _, ch', g1, Or.inl ⟨rfl, rfl⟩, g2, by omega, g3⟩
end
end Go.Proofs.Ythoaangmekkcmaa.Bk
end
