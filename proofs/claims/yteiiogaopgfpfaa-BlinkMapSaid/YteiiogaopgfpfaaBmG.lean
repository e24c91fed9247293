/- Texts of ours, joined. -/
import Derived.Test.YteiiogaopgfpfaaBmE
import Derived.Test.YteiiogaopgfpfaaBkAw

-- joined
section
namespace Go.Proofs.Yteiiogaopgfpfaa.Bk
open Nt Nd
set_option linter.unusedVariables false
set_option linter.unusedSimpArgs false
set_option linter.unusedSectionVars false
theorem erase_mid {l : List Ent} {i : Nat} {e : Ent} (h : l[i]? = some e) : ∃ a b, l = a ++ e :: b ∧ l.eraseIdx i = a ++ b ∧ a.length = i := by
  obtain ⟨hi, he⟩ := List.getElem?_eq_some_iff.1 h
  refine ⟨l.take i, l.drop (i + 1), ?_, List.eraseIdx_eq_take_drop_succ .., by rw [List.length_take]; omega⟩
  rw [← he, ← List.drop_eq_getElem_cons hi, List.take_append_drop]
/-- A leaf whose High and Right are another leaf's, behind it. -/
theorem ok_join {t : Int} {l m : By} {n k : Nod} (h : Ok t 0 l n) (hh : n.has = true) (hm : n.high = m) (h2 : Ok t 0 m k) : Ok t 0 l { n with has := k.has, high := k.high, right := k.right } := by
  have hg := (fits_good h.ft).1
  have hg2 := (fits_good h2.ft).1
  have h6 := (fits_good h.ft).2
  unfold sizeN at h6
  have hlen := fits_len h.ft
  have hmk : k.has = true → lt m k.high = true := h2.hi
  have hlm : lt l m = true := by rw [← hm]; exact h.hi hh
  refine ⟨h.tr, h.lv, ?_, h.lo, fun hk => lt_trans _ _ _ hlm (hmk hk), h2.rt, h2.nr, fun hL => by omega⟩
  unfold fitsB
  rw [Bool.and_eq_true]
  constructor
  · have q1 := hg
    have q2 := hg2
    unfold Nd.goodB at q1 q2 ⊢
    simp only [Bool.and_eq_true] at q1 q2 ⊢
    obtain ⟨⟨⟨⟨⟨a1, a2⟩, a3⟩, a4⟩, a5⟩, a6⟩ := q1
    obtain ⟨⟨⟨⟨⟨b1, b2⟩, b3⟩, b4⟩, b5⟩, b6⟩ := q2
    refine ⟨⟨⟨⟨⟨a1, a2⟩, a3⟩, b4⟩, b5⟩, ?_⟩
    unfold gList
    rw [decide_eq_true (show n.list.length ≤ 100 by omega), Bool.true_and]
    refine gTo_of (n := { n with has := k.has, high := k.high, right := k.right }) (show Srt n.list from good_srt hg) (fun e he => ⟨?_, good_gEnt hg e he⟩) _
    show (!k.has || lt e.key k.high) = true
    cases hk : k.has with
    | false => rfl
    | true =>
      have := ok_lt h hh e he
      rw [hm] at this
      rw [lt_trans _ _ _ this (hmk hk)]
      rfl
  · apply decide_eq_true
    show 20 + sizeL n.list ≤ 252
    exact h6
section
variable {S S' : Sf} {l : List Ent} {ps : List Du} {next top : Nat} {ch : Nat → List Nat}
theorem Wg.shrink (h : Wg S l [] next top ch) (key : By) (hk : key.length = 9) :
    shrR S 3 key = (13, [], 0) ∨ ∃ (c d pa : Nat) (n' na' : Nod) (ps' : List Nat), shrR S 3 key = (0, [((d : Int), n'), ((pa : Int), na')], (c : Int)) ∧ 0 < c ∧ c < 256 ∧ (d < 256 ∧ pa < 256 ∧ n'.list.length ≤ 99999 ∧ na'.list.length ≤ 99999) ∧ ps'.length + 1 = (ch 0).length ∧
      Wg (up (up (up S d n') pa na') c Nod.none) l [] next top (up ch 0 ps') := by
  have ht := h.four
  obtain ⟨z1, z2⟩ := h.last2 key hk
  rcases Nat.eq_zero_or_pos top with h0 | h0
  · exact Or.inl (z1 h0)
  obtain ⟨left, hleft, hz⟩ := z2 h0
  rw [hz]
  have hcm := h.at0 key hk 0 (Nat.zero_le _)
  have hpm := h.at0 key hk 1 h0
  obtain ⟨A0, l0, B0, hpc, c1, c2, c3⟩ := (h.tree.lvl 0 (Nat.zero_le _)).find key (low_le _ hk)
  obtain ⟨A1, l1, B1, hpp, p1, p2, p3⟩ := (h.tree.lvl 1 h0).find key (low_le _ hk)
  generalize fnd S key (ch 0) = c at *
  generalize fnd S key (ch 1) = pa at *
  have hcb := h.tree.bnd 0 c (Nat.zero_le _) hcm
  have hpb := h.tree.bnd 1 pa h0 hpm
  have hg := (fits_good hpp.ok.ft).1
  unfold shr2
  by_cases e1 : 0 < (S c).list.length
  · rw [if_pos e1]; exact Or.inl rfl
  rw [if_neg e1]
  have hce : (S c).list = [] := List.length_eq_zero_iff.1 (by omega)
  rcases lastLe_or (S pa).list key _ (Nat.le_refl _) with ⟨q1, -⟩ | ⟨i, e, q1, q2, q3, q4, q5⟩
  · rw [q1, if_pos (by omega)]; exact Or.inl rfl
  rw [q1]
  by_cases e2 : (i : Int) < 1
  · rw [if_pos e2]; exact Or.inl rfl
  rw [if_neg e2, Int.toNat_natCast, q3]
  dsimp only
  by_cases e3 : (childL e.val : Int) ≠ (c : Int)
  · rw [if_pos e3]; exact Or.inl rfl
  rw [if_neg e3]
  have e3' : childL e.val = c := by omega
  -- the entry ahead
  obtain ⟨i, rfl⟩ : ∃ k, i = k + 1 := ⟨i - 1, by omega⟩
  have q6 : (S pa).list[i]? = some ((S pa).list[i]'(by omega)) := List.getElem?_eq_getElem (by omega)
  generalize hf : (S pa).list[i]'(by omega) = f at q6
  have hfm : f ∈ (S pa).list := List.mem_of_getElem? q6
  obtain ⟨A, d, B, k1, k2⟩ := h.tree.lead 0 (by omega) pa hpm f hfm
  have hdm := k1.mem
  have hdb := h.tree.bnd 0 d (Nat.zero_le _) hdm
  have hlvl : (S pa).level = ((0 + 1 : Nat) : Int) := hpp.ok.lv
  rw [show ((i + 1 : Nat) : Int) - 1 = (i : Int) by omega, blw_to (S := S) (left := left) hlvl q6 k2 (good_two hg (by rw [hlvl]; decide) f hfm) hdb k1.ok.lv hleft]
  dsimp only
  rw [if_pos rfl]
  by_cases e4 : (S d).right ≠ (c : Int)
  · rw [if_pos e4]; exact Or.inl rfl
  rw [if_neg e4]
  have e4' : (S d).right = (c : Int) := by omega
  have hc3 : 3 ≤ c := by rcases h.pg 0 c (Nat.zero_le _) hcm with g | g <;> omega
  -- d stands ahead of c
  have hdh : (S d).has = true := by
    cases g : (S d).has with
    | true => rfl
    | false => have := k1.ok.nr g; omega
  obtain ⟨B', rfl⟩ : ∃ B', B = c :: B' := by
    have hpost := k1.post
    rw [hiN_has hdh, e4', Int.toNat_natCast] at hpost
    cases B with
    | nil => cases hpost.1
    | cons b B' => obtain ⟨g, -⟩ := hpost; exact ⟨B', by rw [g]⟩
  have hpost := k1.post
  rw [hiN_has hdh, e4', Int.toNat_natCast] at hpost
  obtain ⟨-, ⟨lc, ec, okc⟩, post2⟩ := hpost
  have ec' : (S d).high = lc := by cases ec; rfl
  have hnd := h.tree.nod 0 (Nat.zero_le _)
  have heq := k1.eq
  have hcd : c ≠ d := fun g => by
    rw [heq] at hnd
    exact (nodup_mid hnd).2 (by simp [g])
  obtain ⟨a, b, m1, m2, m3⟩ := erase_mid q3
  rw [m2]
  have hpa0 : pa ∉ ch 0 := fun g => by have := h.tree.dis 1 0 pa h0 (Nat.zero_le _) hpm g; omega
  have hpd : pa ≠ d := fun g => hpa0 (by rw [g]; exact hdm)
  have hpc' : pa ≠ c := fun g => hpa0 (by rw [g]; exact hcm)
  have hlenp := fits_len hpp.ok.ft
  -- the node above
  have hsub : ∀ x, x ∈ a ++ b → x ∈ (S pa).list := fun x hx => by
    rw [m1]
    rcases List.mem_append.1 hx with hx | hx
    · exact List.mem_append_left _ hx
    · exact List.mem_append_right _ (List.mem_cons_of_mem _ hx)
  have okp : Ok 2 1 l1 { S pa with list := a ++ b } := by
    refine ⟨hpp.ok.tr, hpp.ok.lv, ?_, fun x hx => hpp.ok.lo x (hsub x hx), hpp.ok.hi, hpp.ok.rt, hpp.ok.nr, fun _ => ?_⟩
    · unfold fitsB
      have hl : (a ++ b).length ≤ (S pa).list.length := by rw [m1]; simp
      have hs : Srt (a ++ b) := (good_srt hg).sublist (by rw [m1]; exact (List.Sublist.refl a).append (List.sublist_cons_self e b))
      rw [good_list hg _ (by omega) hs (fun y hy => ⟨good_cov hg y (hsub y hy), good_gEnt hg y (hsub y hy)⟩), Bool.true_and]
      apply decide_eq_true
      have h6 := (fits_good hpp.ok.ft).2
      unfold sizeN at h6 ⊢
      dsimp only
      rw [m1, sizeL_app, sizeL] at h6
      rw [sizeL_app]
      omega
    · obtain ⟨e0, r0, g1, g2⟩ := hpp.ok.fst (by omega)
      cases a with
      | nil => simp at m3
      | cons x a =>
        rw [m1] at g1
        obtain ⟨g3, -⟩ := List.cons.inj g1
        exact ⟨x, a ++ b, rfl, by rw [g3]; exact g2⟩
  have T1 := h.tree.put h0 hpp (n := { S pa with list := a ++ b }) okp rfl rfl (fun K hK x hx => by
    obtain rfl : K = 0 := by omega
    exact h.tree.lead 0 (by omega) pa hpm x (hsub x hx))
  have k3 : Pos (up S pa { S pa with list := a ++ b }) 2 0 (ch 0) A f.key d (c :: B') := k1.congr fun x hx => up_other _ _ _ _ fun g => hpa0 (by rw [← g]; exact hx)
  -- what leads to c was taken away
  have hpm0 := h.pm 0 h0
  have hdu0 : dues [] 0 = [] := rfl
  rw [hdu0, List.append_nil] at hpm0
  have hd1 := h.tree.nod 1 h0
  have hkd : (c :: kids (lists (up S pa { S pa with list := a ++ b }) (ch 1))).Perm (kids (lists S (ch 1))) := by
    obtain ⟨A4, B4, e4⟩ := List.append_of_mem hpm
    rw [e4] at hd1 ⊢
    rw [lists_mid hd1, lists_app, lists_cons, m1]
    simp only [kids_app]
    unfold kids
    rw [List.map_cons, e3']
    simp only [List.append_assoc, List.cons_append]
    have := List.perm_middle (l₁ := List.map (fun e => childL e.val) (lists S A4) ++ List.map (fun e => childL e.val) a) (a := c) (l₂ := List.map (fun e => childL e.val) b ++ List.map (fun e => childL e.val) (lists S B4))
    simp only [List.append_assoc] at this
    exact this.symm
  have hcn : c ∉ kids (lists (up S pa { S pa with list := a ++ b }) (ch 1)) := by
    have g := (hkd.trans hpm0).nodup_iff.2 hnd
    exact (List.nodup_cons.1 g).1
  -- the leaf ahead
  have okd := ok_join k1.ok hdh ec' okc
  have hSd : up S pa { S pa with list := a ++ b } d = S d := up_other _ _ _ _ (fun g => hpd g.symm)
  have hSc : up S pa { S pa with list := a ++ b } c = S c := up_other _ _ _ _ (fun g => hpc' g.symm)
  have e5 : up (up (up S d { S d with has := (S c).has, high := (S c).high, right := (S c).right }) pa { S pa with list := a ++ b }) c Nod.none d = { S d with has := (S c).has, high := (S c).high, right := (S c).right } := by
    rw [up_other _ _ _ _ (fun g => hcd g.symm), up_other _ _ _ _ (fun g => hpd g.symm), up_same]
  have eo : ∀ p, p ≠ d → p ≠ c → up (up (up S d { S d with has := (S c).has, high := (S c).high, right := (S c).right }) pa { S pa with list := a ++ b }) c Nod.none p = up S pa { S pa with list := a ++ b } p := fun p g1 g2 => by
    rw [up_other _ _ _ _ g2]
    by_cases g3 : p = pa
    · rw [g3, up_same, up_same]
    · rw [up_other _ _ _ _ g3, up_other _ _ _ _ g1, up_other _ _ _ _ g3]
  have ecn : up (up (up S d { S d with has := (S c).has, high := (S c).high, right := (S c).right }) pa { S pa with list := a ++ b }) c Nod.none c = Nod.none := up_same ..
  have T2 := T1.cut (S' := up (up (up S d { S d with has := (S c).has, high := (S c).high, right := (S c).right }) pa { S pa with list := a ++ b }) c Nod.none) k3 (fun _ x hx y hy g => hcn (by
    unfold kids
    exact List.mem_map.2 ⟨y, Wk.mem_lists hx y hy, g⟩)) (n := { S d with has := (S c).has, high := (S c).high, right := (S c).right }) okd (by rw [hSc]; rfl) (by rw [hSc]) e5 eo
  refine Or.inr ⟨c, d, pa, _, _, A ++ d :: B', rfl, by omega, hcb, ⟨hdb, hpb, (show (S d).list.length ≤ 99999 from by have := fits_len k1.ok.ft; omega), (show (a ++ b).length ≤ 99999 from by have := congrArg List.length m1; simp only [List.length_append, List.length_cons] at this ⊢; omega)⟩, by rw [heq]; simp; omega, ?_⟩
  generalize up (up (up S d { S d with has := (S c).has, high := (S c).high, right := (S c).right }) pa { S pa with list := a ++ b }) c Nod.none = S2 at *
  have hnew : ∀ p, p ∈ A ++ d :: B' ↔ p ∈ ch 0 ∧ p ≠ c := fun p => by
    rw [heq] at hnd ⊢
    have n1 : c ∉ A := fun g => by
      rw [List.nodup_append] at hnd
      exact hnd.2.2 c g c (by simp) rfl
    have n2 : c ∉ B' := by
      rw [List.nodup_append, List.nodup_cons, List.nodup_cons] at hnd
      exact hnd.2.1.2.1
    simp only [List.mem_append, List.mem_cons]
    constructor
    · rintro (g | g | g)
      · exact ⟨Or.inl g, fun e => n1 (by rw [← e]; exact g)⟩
      · exact ⟨Or.inr (Or.inl g), fun e => hcd (by rw [← e, g])⟩
      · exact ⟨Or.inr (Or.inr (Or.inr g)), fun e => n2 (by rw [← e]; exact g)⟩
    · rintro ⟨g | g | g | g, g2⟩
      · exact Or.inl g
      · exact Or.inr (Or.inl g)
      · exact absurd g g2
      · exact Or.inr (Or.inr g)
  have hup : ∀ K, 1 ≤ K → K ≤ top → ∀ p, p ∈ ch K → S2 p = up S pa { S pa with list := a ++ b } p := fun K hK1 hK p hp => eo p (fun g => by
      have := h.tree.dis K 0 p hK (Nat.zero_le _) hp (by rw [g]; exact hdm)
      omega) (fun g => by
      have := h.tree.dis K 0 p hK (Nat.zero_le _) hp (by rw [g]; exact hcm)
      omega)
  have hup2 : ∀ K, 2 ≤ K → K ≤ top → ∀ p, p ∈ ch K → S2 p = S p := fun K hK1 hK p hp => by
    rw [hup K (by omega) hK p hp]
    exact up_other _ _ _ _ fun g => by
      have := h.tree.dis K 1 p hK h0 hp (by rw [g]; exact hpm)
      omega
  have chK : ∀ K, 1 ≤ K → up ch 0 (A ++ d :: B') K = ch K := fun K hK => up_other _ _ _ _ (by omega)
  refine ⟨T2, ?_, h.v59, fun K p hK hpm' => ?_, h.nx, fun p hp' => ?_, (fun x hx => by cases hx), fun L hL => ?_, fun L hL2 hL x hx => ?_, fun ht2 => ?_⟩
  · rw [up_same, ← h.row, heq, lists_app, lists_cons, lists_app, lists_cons, lists_cons, hce, List.nil_append, e5]
    have sm : ∀ p, p ∈ A ++ d :: B' → p ≠ d → S2 p = S p := fun p hp hne => by
      obtain ⟨g1, g2⟩ := (hnew p).1 hp
      rw [eo p hne g2]
      exact up_other _ _ _ _ fun g => hpa0 (by rw [← g]; exact g1)
    rw [heq] at hnd
    obtain ⟨n1, n2⟩ := nodup_mid hnd
    rw [lists_out (S' := S2) (S := S) (ps := A) (fun p hp => sm p (by simp [hp]) (fun g => n1 (by rw [← g]; exact hp))), lists_out (S' := S2) (S := S) (ps := B') (fun p hp => sm p (by simp [hp]) (fun g => n2 (by rw [← g]; simp [hp])))]
  · by_cases hK0 : K = 0
    · subst hK0
      rw [up_same] at hpm'
      exact h.pg 0 p hK ((hnew p).1 hpm').1
    · rw [chK K (by omega)] at hpm'
      exact h.pg K p hK hpm'
  · by_cases hpc2 : p = c
    · rw [hpc2, ecn]
    · have hp0 := hp' 0 (Nat.zero_le _)
      rw [up_same] at hp0
      have hnot : ∀ K, K ≤ top → p ∉ ch K := fun K hK g => by
        by_cases hK0 : K = 0
        · subst hK0
          exact hp0 ((hnew p).2 ⟨g, hpc2⟩)
        · have := hp' K hK
          rw [chK K (by omega)] at this
          exact this g
      rw [eo p (fun g => hnot 0 (Nat.zero_le _) (by rw [g]; exact hdm)) hpc2, up_other _ _ _ _ (fun g => hnot 1 h0 (by rw [g]; exact hpm))]
      exact h.out p hnot
  · by_cases hL0 : L = 0
    · subst hL0
      rw [chK (0 + 1) (by omega), up_same, hdu0, List.append_nil, lists_out (hup 1 (by omega) h0)]
      have g1 := hkd.trans hpm0
      rw [heq] at g1
      have g2 : (A ++ d :: c :: B').Perm (c :: (A ++ d :: B')) := by
        have := List.perm_middle (l₁ := A ++ [d]) (a := c) (l₂ := B')
        simpa using this
      exact (g1.trans g2).cons_inv
    · rw [chK (L + 1) (by omega), chK L (by omega), lists_out (hup2 (L + 1) (by omega) (by omega))]
      exact h.pm L hL
  · rw [chK L (by omega)] at hx
    rw [hup2 L hL2 (by omega) x hx]
    exact h.mn L hL2 hL x hx
  · rw [hup2 top ht2 (Nat.le_refl _) 3 (by rw [h.tree.root]; simp)]
    exact h.m2 ht2
end
end Go.Proofs.Yteiiogaopgfpfaa.Bk
end

-- joined
section
namespace Go.Proofs.Yteiiogaopgfpfaa.Bk
open Go.ChangeShapes Go.WideShapes Go.ChangeAt Go.RowKit Go.PlainAid Aid Nt Nd Tr
set_option linter.unusedVariables false
set_option linter.unusedSimpArgs false
set_option linter.unusedSectionVars false
def poL (ps : List Po) : List Value := ps.flatMap fun x => (poC x).toList
/-- The law's world. -/
def aWd (g gs : Nat) (S : Sf) (V : Nat → Value) (vl : Value) (l : List Ent) (vp : Value) (ps : List Po) (next : Int) : Asn :=
  Asn.blk g 30 #[sPtr gs, vl, vp, .int .i64 next] * (Asn.vec 44 3 vl l.length (cells3 l) * (Asn.vec 79 4 vp ps.length (poL ps) * aSf gs S V))
def S3 : Sf := puts T0 [(3, { Nod.none with tree := 2 })]
set_option maxRecDepth 100000 in
set_option maxHeartbeats 8000000 in
theorem start_any (w : World) :
    Calls Try.prog 8 #[] w fun e w' => ∃ g gs V, e = .returned (.pointer (some ⟨g, 0, none⟩)) ∧ Own w No w' (aWd g gs S3 V (.slice none 0 0) [] (.slice none 0 0) [] 4 * Asn.emp) := by
  go_enter Try.func8, Try.ntmps8
  go_wp2_with fail
  refine (New_any w).mono ?_
  rintro e w1 ⟨gs, V0, rfl, hX⟩
  have S1 := Lib.hid ((show Own w No w1 (aSf gs T0 V0 * Asn.emp) from hX.addEmp).alloc #[sPtr gs, .slice none 0 0, .slice none 0 0, .int .i64 4] 30)
  clear hX
  unfold sPtr at *
  go_wp2_with fail
  obtain ⟨g, hgz⟩ : ∃ g, g = w1.heap.size := ⟨_, rfl⟩
  rw [← hgz] at S1 ⊢
  have hsz : (w1.alloc (.cells #[.pointer (some ⟨gs, 0, none⟩), .slice none 0 0, .slice none 0 0, .int .i64 4] 30)).heap.size = g + 1 := by rw [World.size_alloc, hgz]
  clear hgz
  generalize World.alloc w1 _ = w2 at *
  have S2 := Lib.hid ((S1.out.nilVec 44 3).alloc #[.int .i64 3, .int .i64 2, .int .i64 0, .int .i64 0, .bool false, .string ⟨#[]⟩, .int .i64 0, .slice none 0 0] 73)
  rw [hsz] at S2
  clear hsz S1
  generalize World.alloc w2 _ = w3 at *
  have S3 := Lib.hid (S2.out.imp (Imp.l (blk_vec (cs := [.int .i64 3, .int .i64 2, .int .i64 0, .int .i64 0, .bool false, .string ⟨#[]⟩, .int .i64 0, .slice none 0 0]) 1 8 rfl (by decide))))
  clear S2
  have HPu := Lib.hid (ShPut_own gs T0 V0 [⟨3, { Nod.none with tree := 2 }, .slice none 0 0⟩] 1 rfl (.slice (some ⟨g + 1, 0, none⟩) 1 1) w w3 (Asn.blk g 30 #[.pointer (some ⟨gs, 0, none⟩), .slice none 0 0, .slice none 0 0, .int .i64 4] * Asn.emp) (by decide) (fun x hx => by obtain rfl := List.mem_singleton.1 hx; exact Nat.zero_le _)
    (S3.out.addEmp.re (show _ = Asn.vec 73 8 (.slice (some ⟨g + 1, 0, none⟩) 1 1) 1 [.int .i64 3, .int .i64 2, .int .i64 0, .int .i64 0, .bool false, .string ⟨#[]⟩, .int .i64 0, .slice none 0 0] * ((Asn.vec 44 3 (.slice none 0 0) 0 [] * Asn.emp) * (aSf gs T0 V0 * (Asn.blk g 30 #[.pointer (some ⟨gs, 0, none⟩), .slice none 0 0, .slice none 0 0, .int .i64 4] * Asn.emp))) by ac_rfl)))
  unfold sPtr at HPu
  clear S3
  go_wp2_with fail
  refine HPu.out.mono ?_
  rintro e w4 ⟨rfl, V1, hX⟩
  have S4 := Lib.hid ((hX.nilVec 44 3).nilVec 79 4)
  clear hX HPu
  go_wp2_with fail
  go_returns
  exact ⟨g, gs, V1, rfl, S4.out.re (show _ = (Asn.blk g 30 #[.pointer (some ⟨gs, 0, none⟩), .slice none 0 0, .slice none 0 0, .int .i64 4] * (Asn.vec 44 3 (.slice none 0 0) 0 [] * (Asn.vec 79 4 (.slice none 0 0) 0 [] * aSf gs S3 V1))) * Asn.emp by unfold S3; ac_rfl)⟩
end Go.Proofs.Yteiiogaopgfpfaa.Bk
end

-- joined
section
namespace Go.Proofs.Yteiiogaopgfpfaa.Bk
open Nt Nd
set_option linter.unusedVariables false
set_option linter.unusedSimpArgs false
set_option linter.unusedSectionVars false
section
variable {S : Sf} {l : List Ent} {ps : List Du} {next top L : Nat} {ch : Nat → List Nat}
/-- The start. -/
theorem wg_start : Wg (puts (fun _ => Nod.none) [(3, { Nod.none with tree := 2 })]) [] [] 4 0 (fun _ => [3]) := by
  have e : puts (fun _ => Nod.none) [(3, { Nod.none with tree := 2 })] = up (fun _ => Nod.none) 3 { Nod.none with tree := 2 } := puts_one _ 3 _ (by omega)
  rw [e]
  have e3 : up (fun _ => Nod.none) 3 { Nod.none with tree := 2 } 3 = { Nod.none with tree := 2 } := up_same ..
  refine ⟨⟨fun L hL => ?_, rfl, fun L hL => by omega, fun L hL => by simp, fun L K p h1 h2 _ _ => by omega, fun L p _ hp => ?_⟩, ?_, (fun e he => by cases he), fun K p _ hp => Or.inl (List.mem_singleton.1 hp), by omega, fun p hp => ?_, (fun x hx => by cases hx), fun L hL => by omega, fun L _ hL => by omega, fun h => by omega⟩
  · obtain rfl : L = 0 := by omega
    refine ⟨3, rfl, ⟨low, rfl, ?_⟩, ?_⟩
    · rw [e3]
      exact ⟨rfl, rfl, by decide, (fun e he => by cases he), (fun h => by cases h), (fun h => by cases h), fun _ => rfl, fun h => by omega⟩
    · rw [e3]
      exact ⟨rfl, rfl⟩
  · have := List.mem_singleton.1 hp
    omega
  · rw [lists_cons, e3]
    rfl
  · exact up_other _ _ _ _ fun g => hp 0 (Nat.zero_le _) (by rw [g]; simp)
theorem way_pages (S : Sf) (ch : Nat → List Nat) (key : By) : ∀ n L, (way S ch key L n).map (fun x => x.1) = (List.range (n + 1)).map fun j => (fnd S key (ch (L - j)) : Int)
  | 0, L => rfl
  | n + 1, L => by
    show (fnd S key (ch L) : Int) :: (way S ch key (L - 1) n).map (fun x => x.1) = _
    rw [way_pages S ch key n (L - 1), List.range_succ_eq_map (n := n + 1), List.map_cons, List.map_map]
    refine congrArg _ (List.map_congr_left fun j _ => ?_)
    simp only [Function.comp]
    rw [show L - 1 - j = L - (j + 1) by omega]
theorem Wg.pages (h : Wg S l ps next top ch) (key : By) (hk : key.length = 9) (lv : Nat) (hlv : lv ≤ top) : (Bk.seek S 256 3 lv key).2.1 = 0 ∧ pagesR S 3 lv key = (List.range (top - lv + 1)).map fun j => (fnd S key (ch (top - j)) : Int) := by
  obtain ⟨left', -, hs⟩ := h.seek key (low_le _ hk) lv hlv
  unfold pagesR
  rw [hs]
  exact ⟨rfl, way_pages ..⟩
theorem Wg.root3 (h : Wg S l ps next top ch) : (S 3).level = (top : Int) ∧ fnd S [] (ch top) = 3 := by
  refine ⟨h.tree.pos.ok.lv, ?_⟩
  obtain ⟨r1, r2, r3⟩ := root_has h.tree
  rw [h.tree.root]
  refine fnd_eq (A := []) (B := []) (by simp) ?_
  unfold cov
  rw [r1]
  rfl
end
end Go.Proofs.Yteiiogaopgfpfaa.Bk
end
