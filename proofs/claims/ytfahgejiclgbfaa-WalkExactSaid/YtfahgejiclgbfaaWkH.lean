/- Texts of ours, joined. -/
import Derived.Test.YtfahgejiclgbfaaWkG
import Derived.Deep.RegionHeld3
import Derived.Test.YtfahgejiclgbfaaBkT
import Derived.Test.YtfahgejiclgbfaaBkO
import Derived.Test.YtfahgejiclgbfaaBkPu

-- joined
section
namespace Go.Proofs.Ytfahgejiclgbfaa.Wk
open Go.ChangeShapes Go.WideShapes Go.ChangeAt Go.RowKit Go.PlainAid Aid Nt Nd Tr Bk
open Ky (keyZ)
set_option linter.unusedVariables false
set_option linter.unusedSimpArgs false
set_option linter.unusedSectionVars false
theorem aw1 : firR (gS 3) 3 (keyZ 3) (nxtQ (keyZ 3)) = (0, some (ek 1)) := by decide +kernel
theorem aw2 : firR (gS 3) 3 (keyZ 4) (aftQ (keyZ 4)) = (0, some (ek 2)) := by decide +kernel
theorem aw3 : gapR (gS 3) 3 (keyZ 6) = (0, endB) := by decide +kernel
set_option maxRecDepth 100000 in
set_option maxHeartbeats 16000000 in
theorem awake11_any (w : World) :
    Calls Try.prog 31 #[] w fun e w' => e = .returned (.bool true) ∧ Below w.heap.size w w' := by
  obtain ⟨hsm, hlv⟩ := g_sm 3 (by decide)
  have HNx := Lib.hid (fun gs V W C h => Next_any gs (gS 3) V hsm hlv 3 (keyZ 3) w W C h)
  have HAf := Lib.hid (fun gs V W C h => After_any gs (gS 3) V hsm hlv 3 (keyZ 4) w W C h)
  have HGa := Lib.hid (fun gs V W C h => Gap_any gs (gS 3) V hsm hlv 3 (keyZ 6) w W C h)
  rw [aw1] at HNx
  rw [aw2] at HAf
  rw [aw3] at HGa
  dsimp only at HNx HAf HGa
  rw [show entCells (fE (some (ek 1))) = #[.string (ofL (keyZ 4)), .string (ofL (List.replicate 40 0)), .bool false] from rfl, show (some (ek 1)).isSome = true from rfl] at HNx
  rw [show entCells (fE (some (ek 2))) = #[.string (ofL (keyZ 6)), .string (ofL (List.replicate 40 0)), .bool false] from rfl, show (some (ek 2)).isSome = true from rfl] at HAf
  unfold pgs at HNx HAf HGa
  unfold endB at HGa
  clear hsm hlv
  generalize ofL (List.replicate 40 0) = z at *
  have S0 := Lib.hid ((Own.none w).alloc #[.int .i64 2, .int .i64 4, .int .i64 6] 3)
  go_enter Try.func31, Try.ntmps31
  go_wp2_with fail
  obtain ⟨gk, hgz⟩ : ∃ g, g = w.heap.size := ⟨_, rfl⟩
  rw [← hgz] at S0 ⊢
  clear hgz
  generalize World.alloc w _ = w1 at *
  have hb := S0.out.has (Has.l (has_blk gk _ _))
  have HGr := Lib.hid (grown3_any gk 3 w1 hb.lt (hb.cell 0) (hb.cell 1) (hb.cell 2))
  clear hb
  refine HGr.out.mono ?_
  rintro e w2 ⟨gs, V, A, c, rfl, hX⟩
  have S2 := Lib.hid ((own_join S0.out hX).re (show _ = (Asn.vec 44 3 (.slice A 3 c) 3 (cells3 (gL 3)) * Asn.blk gk 3 #[.int .i64 2, .int .i64 4, .int .i64 6]) * (aSf gs (gS 3) V * (Asn.emp * Asn.emp)) by ac_rfl)).right
  clear hX S0 HGr
  unfold sPtr
  go_wp2_with fail
  refine (key11_any 3 _ (by decide) (by decide)).mono ?_
  rintro e w3 ⟨rfl, hX⟩
  have S3 := Lib.hid (S2.out.below hX)
  clear hX S2 
  go_wp2_with fail
  refine (HNx.out _ _ _ _ S3.out).mono ?_
  rintro e w4 ⟨rfl, hX⟩
  have S4 := Lib.hid (hX.alloc #[.string (ofL (keyZ 4)), .string z, .bool false] 44)
  clear hX S3 HNx
  go_upto_region 5 with fail
  obtain ⟨g3, hgz⟩ : ∃ g, g = w4.heap.size := ⟨_, rfl⟩
  rw [← hgz] at S4 ⊢
  clear hgz
  generalize World.alloc w4 _ = w5 at *
  go_wp2_with fail
  refine (key11_any 4 _ (by decide) (by decide)).mono ?_
  rintro e w6 ⟨rfl, hX⟩
  have S5 := Lib.hid (S4.out.below hX)
  clear hX S4 
  go_wp2_with fail
  refine (HAf.out _ _ _ _ (S5.out.re (show _ = aSf gs (gS 3) V * (Asn.blk g3 44 #[.string (ofL (keyZ 4)), .string z, .bool false] * (Asn.emp * Asn.emp)) by ac_rfl))).mono ?_
  rintro e w7 ⟨rfl, hX⟩
  have S7 := Lib.hid (hX.alloc #[.string (ofL (keyZ 6)), .string z, .bool false] 44)
  clear hX S5 HAf
  go_upto_region 6 with fail
  obtain ⟨g6, hgz⟩ : ∃ g, g = w7.heap.size := ⟨_, rfl⟩
  rw [← hgz] at S7 ⊢
  clear hgz
  generalize World.alloc w7 _ = w8 at *
  go_wp2_with fail
  refine (key11_any 6 _ (by decide) (by decide)).mono ?_
  rintro e w9 ⟨rfl, hX⟩
  have S8 := Lib.hid (S7.out.below hX)
  clear hX S7 
  go_wp2_with fail
  refine (HGa.out _ _ _ _ (S8.out.re (show _ = aSf gs (gS 3) V * (Asn.blk g6 44 #[.string (ofL (keyZ 6)), .string z, .bool false] * (Asn.blk g3 44 #[.string (ofL (keyZ 4)), .string z, .bool false] * (Asn.emp * Asn.emp))) by ac_rfl))).mono ?_
  rintro e wa ⟨rfl, hX⟩
  have Sa := Lib.hid hX.right
  clear hX S8 HGa
  go_upto_region 7 with fail
  have Sb := Lib.hid Sa.out.drew
  clear Sa
  have F := Lib.hid (fun (W : World) (h : Own w No W (Asn.blk g6 44 #[.string (ofL (keyZ 6)), .string z, .bool false] * (Asn.blk g3 44 #[.string (ofL (keyZ 4)), .string z, .bool false] * (Asn.emp * Asn.emp)))) => (⟨(three_of (h.has (Has.r (Has.l (has_blk g3 _ _))))).1.1, (three_of (h.has (Has.l (has_blk g6 _ _)))).1.1⟩ : W.cell? ⟨g3, 0, none⟩ = some (.string (ofL (keyZ 4))) ∧ W.cell? ⟨g6, 0, none⟩ = some (.string (ofL (keyZ 6)))))
  have tA := F.out _ Sb.out
  go_region_held3 (fun W : World => W.cell? ⟨g3, 0, none⟩ = some (.string (ofL (keyZ 4))) ∧ W.cell? ⟨g6, 0, none⟩ = some (.string (ofL (keyZ 6)))) (first | exact tA | exact tB | exact tC) (first | (go_at_call 33; refine (key11_any 4 _ (by decide) (by decide)).mono ?_; rintro eK wk ⟨rfl, hX⟩; have Sk := Lib.hid (Sb.out.below hX); have tB := F.out _ Sk.out) | (go_at_call 33; refine (key11_any 6 _ (by decide) (by decide)).mono ?_; rintro eK wl ⟨rfl, hX⟩; have Sl := Lib.hid (Sk.out.below hX); have tC := F.out _ Sl.out))
  go_wp2_with fail
  go_returns
  exact ⟨by simp, Sl.out.bel⟩
end Go.Proofs.Ytfahgejiclgbfaa.Wk
end

-- joined
section
namespace Go.Proofs.Ytfahgejiclgbfaa.Bk
open Nt Nd
set_option linter.unusedVariables false
set_option linter.unusedSimpArgs false
set_option linter.unusedSectionVars false
/-- The entries of leaves. -/
def lists (S : Sf) (A : List Nat) : List Ent := A.flatMap fun a => (S a).list
/-- Keys rise. -/
def Srt (l : List Ent) : Prop := l.Pairwise fun a b => lt a.key b.key = true
theorem srt_adj : ∀ (l : List Ent), (∀ j a e, l[j]? = some a → l[j + 1]? = some e → lt a.key e.key = true) → Srt l
  | [], _ => List.Pairwise.nil
  | a :: l, h => by
    have ih := srt_adj l (fun j x y hx hy => h (j + 1) x y (by simpa using hx) (by simpa using hy))
    refine List.pairwise_cons.2 ⟨fun b hb => ?_, ih⟩
    cases l with
    | nil => cases hb
    | cons c l =>
      have hc := h 0 a c rfl rfl
      rcases List.mem_cons.1 hb with rfl | hb
      · exact hc
      · exact lt_trans _ _ _ hc ((List.pairwise_cons.1 ih).1 b hb)
theorem good_srt {n : Nod} (h : Nd.goodB n = true) : Srt n.list := by
  simp only [Nd.goodB, gList, inN, Bool.and_eq_true, decide_eq_true_eq] at h
  obtain ⟨-, -, h11⟩ := h
  refine srt_adj _ fun j a e h1 h2 => ?_
  have := gTo_at n _ (j + 1) h11 (List.getElem?_eq_some_iff.1 h2).1 e h2
  simp only [gAt, Bool.and_eq_true, rise, h1] at this
  exact this.1
theorem good_cov {n : Nod} (h : Nd.goodB n = true) (e : Ent) (he : e ∈ n.list) : cov n e.key = true := by
  simp only [Nd.goodB, gList, inN, Bool.and_eq_true, decide_eq_true_eq] at h
  obtain ⟨-, -, h11⟩ := h
  obtain ⟨i, hi⟩ := List.getElem?_of_mem he
  have := gTo_at n _ i h11 (List.getElem?_eq_some_iff.1 hi).1 e hi
  simp only [gAt, Bool.and_eq_true] at this
  exact this.2.1
theorem lists_app (S : Sf) (A B : List Nat) : lists S (A ++ B) = lists S A ++ lists S B := List.flatMap_append
theorem lists_cons (S : Sf) (a : Nat) (A : List Nat) : lists S (a :: A) = (S a).list ++ lists S A := rfl
section
variable {S : Sf} {t : Int} {L : Nat}
theorem ok_lt {l : By} {n : Nod} (h : Ok t L l n) (hh : n.has = true) (e : Ent) (he : e ∈ n.list) : lt e.key n.high = true := by
  have := good_cov (fits_good h.ft).1 e he
  unfold cov at this
  rw [hh, Bool.not_true, Bool.false_or] at this
  exact this
theorem seg_has {n : Nod} {a p q : Nat} {A : List Nat} {hi : Option By} (h : Seg S t L (hiN n) p (a :: A) hi q) : n.has = true := by
  obtain ⟨_, ⟨l, e, _⟩, _⟩ := h
  unfold hiN at e
  cases hh : n.has with
  | true => rfl
  | false => rw [hh] at e; cases e
theorem hiN_has {n : Nod} (h : n.has = true) : hiN n = some n.high := by
  unfold hiN
  rw [h]
  rfl
theorem seg_ge : ∀ {A : List Nat} {l : By} {p q : Nat} {hi : Option By}, Seg S t L (some l) p A hi q → ∀ e, e ∈ lists S A → le l e.key = true
  | [], _, _, _, _, _, e, he => by cases he
  | [a], l, p, q, hi, ⟨h1, ⟨l', h2, ok⟩, h3⟩, e, he => by
    cases h2
    rw [lists_cons] at he
    rcases List.mem_append.1 he with he | he
    · exact ok.lo e he
    · cases he
  | a :: b :: A, l, p, q, hi, ⟨h1, ⟨l', h2, ok⟩, h3⟩, e, he => by
    cases h2
    rw [lists_cons] at he
    rcases List.mem_append.1 he with he | he
    · exact ok.lo e he
    · have hh := seg_has h3
      rw [hiN_has hh] at h3
      exact le_of_lt (lt_le (ok.hi hh) (seg_ge h3 e he))
theorem seg_srt : ∀ {A : List Nat} {lo : Option By} {p q : Nat} {hi : Option By}, Seg S t L lo p A hi q → Srt (lists S A)
  | [], _, _, _, _, _ => List.Pairwise.nil
  | [a], lo, p, q, hi, ⟨h1, ⟨l', h2, ok⟩, h3⟩ => by
    have e : lists S [a] = (S a).list := by rw [lists_cons]; exact List.append_nil _
    rw [e]
    exact good_srt (fits_good ok.ft).1
  | a :: b :: A, lo, p, q, hi, ⟨h1, ⟨l', h2, ok⟩, h3⟩ => by
    have ih := seg_srt h3
    rw [lists_cons]
    refine List.pairwise_append.2 ⟨good_srt (fits_good ok.ft).1, ih, fun x hx y hy => ?_⟩
    have hh := seg_has h3
    rw [hiN_has hh] at h3
    exact lt_le (ok_lt ok hh x hx) (seg_ge h3 y hy)
theorem seg_below : ∀ {A : List Nat} {lo : Option By} {l : By} {p q : Nat}, Seg S t L lo p A (some l) q → ∀ e, e ∈ lists S A → lt e.key l = true
  | [], _, _, _, _, _, e, he => by cases he
  | a :: A, lo, l, p, q, ⟨h1, ⟨l', h2, ok⟩, h3⟩, e, he => by
    rw [lists_cons] at he
    rcases List.mem_append.1 he with he | he
    · have hh : (S a).has = true := by
        cases A with
        | nil =>
          unfold hiN at h3
          cases hh : (S a).has with
          | true => rfl
          | false => rw [hh] at h3; cases h3.1
        | cons b B => exact seg_has h3
      rw [hiN_has hh] at h3
      exact lt_le (ok_lt ok hh e he) (seg_le h3)
    · exact seg_below h3 e he
end
theorem seg_len {S : Sf} {t : Int} {L : Nat} : ∀ {A : List Nat} {lo : Option By} {p q : Nat} {hi : Option By}, Seg S t L lo p A hi q → ∀ e, e ∈ lists S A → e.key.length = 9
  | [], _, _, _, _, _, e, he => by cases he
  | a :: A, lo, p, q, hi, ⟨h1, ⟨l', h2, ok⟩, h3⟩, e, he => by
    rw [lists_cons] at he
    rcases List.mem_append.1 he with he | he
    · exact (goods (fits_good ok.ft).1).ky e he
    · exact seg_len h3 e he
theorem tree_len {S : Sf} {r : Nat} {t : Int} {top : Nat} {ch : Nat → List Nat} (T : Tree S r t top ch) : ∀ e, e ∈ lists S (ch 0) → e.key.length = 9 := by
  obtain ⟨p0, h⟩ := T.lvl 0 (Nat.zero_le _)
  exact seg_len h
section
variable {S : Sf} {r : Nat} {t : Int} {top : Nat} {ch : Nat → List Nat}
theorem tree_srt (T : Tree S r t top ch) : Srt (lists S (ch 0)) := by
  obtain ⟨p0, h⟩ := T.lvl 0 (Nat.zero_le _)
  exact seg_srt h
end
end Go.Proofs.Ytfahgejiclgbfaa.Bk
end

-- joined
section
namespace Go.Proofs.Ytfahgejiclgbfaa.Bk
open Nt Nd
set_option linter.unusedVariables false
set_option linter.unusedSimpArgs false
set_option linter.unusedSectionVars false
/-- Rising entries by a key: those below, the one, those above. -/
structure Thr (key : By) (l l0 m l2 : List Ent) : Prop where
  eq : l = l0 ++ (m ++ l2)
  lo : ∀ e, e ∈ l0 → lt e.key key = true
  hi : ∀ e, e ∈ l2 → lt key e.key = true
  md : m = [] ∨ ∃ x, m = [x] ∧ x.key = key
theorem srt_three (key : By) : ∀ {l : List Ent}, Srt l → ∃ l0 m l2, Thr key l l0 m l2
  | [], _ => ⟨[], [], [], rfl, by simp, by simp, Or.inl rfl⟩
  | e :: l, h => by
    obtain ⟨h1, h2⟩ := List.pairwise_cons.1 h
    cases hl : lt e.key key with
    | true =>
      obtain ⟨l0, m, l2, rfl, h3, h4, h5⟩ := srt_three key h2
      exact ⟨e :: l0, m, l2, rfl, fun x hx => by
        rcases List.mem_cons.1 hx with rfl | hx
        · exact hl
        · exact h3 x hx, h4, h5⟩
    | false =>
      cases hk : lt key e.key with
      | true => exact ⟨[], [], e :: l, rfl, by simp, fun x hx => by
          rcases List.mem_cons.1 hx with rfl | hx
          · exact hk
          · exact lt_trans _ _ _ hk (h1 x hx), Or.inl rfl⟩
      | false =>
        have he := lt_conn _ _ hl hk
        exact ⟨[], [e], l, rfl, by simp, fun x hx => he ▸ h1 x hx, Or.inr ⟨e, rfl, he⟩⟩
section
variable {key : By} {l l0 m l2 : List Ent}
theorem Thr.srt (h : Thr key l l0 m l2) (hs : Srt l) : Srt l0 ∧ Srt l2 := by
  obtain ⟨rfl, -, -, -⟩ := h
  have h1 := List.pairwise_append.1 hs
  exact ⟨h1.1, (List.pairwise_append.1 h1.2.1).2.1⟩
theorem Thr.last (h : Thr key l l0 m l2) : lastLe l key l.length = ((l0 ++ m).length : Int) - 1 := by
  obtain ⟨rfl, h1, h2, h3⟩ := h
  have hle : ∀ x, x ∈ l0 ++ m → le x.key key = true := by
    intro x hx
    rcases List.mem_append.1 hx with hx | hx
    · exact le_of_lt (h1 x hx)
    · rcases h3 with rfl | ⟨y, rfl, hy⟩
      · cases hx
      · rw [List.mem_singleton] at hx
        rw [hx, hy]
        exact le_refl _
  rw [← List.append_assoc]
  generalize l0 ++ m = a at *
  rcases lastLe_or (a ++ l2) key _ (Nat.le_refl _) with ⟨e1, e2⟩ | ⟨i, x, e1, e2, e3, e4, e5⟩
  · rw [e1]
    cases a with
    | nil => rfl
    | cons x a =>
      have := e2 0 x (by simp) rfl
      rw [hle x List.mem_cons_self] at this
      cases this
  · rw [e1]
    have hi : i < a.length := by
      rcases Nat.lt_or_ge i a.length with hi | hi
      · exact hi
      · rw [List.getElem?_append_right hi] at e3
        rw [not_le.2 (h2 x (List.mem_of_getElem? e3))] at e4
        cases e4
    rcases Nat.lt_or_ge (i + 1) a.length with hj | hj
    · have h6 : (a ++ l2)[i + 1]? = some (a[i + 1]'hj) := by rw [List.getElem?_append_left hj]; exact List.getElem?_eq_getElem hj
      have := e5 (i + 1) _ (by omega) (by simp only [List.length_append]; omega) h6
      rw [hle _ (List.getElem_mem hj)] at this
      cases this
    · omega
theorem Thr.plc {n : Nod} (h : Thr key n.list l0 m l2) : plc n key = ((l0.length : Int), !m.isEmpty) := by
  have hl := h.last
  obtain ⟨h0, h1, h2, h3⟩ := h
  rcases h3 with rfl | ⟨x, rfl, hx⟩
  · rw [List.append_nil] at hl
    rcases List.eq_nil_or_concat l0 with rfl | ⟨l0, y, rfl⟩
    · unfold Bk.plc
      rw [hl]
      rfl
    · have hy : n.list[l0.length]? = some y := by rw [h0]; simp
      have hk : y.key ≠ key := lt_ne (h1 y (by simp))
      rw [plc_miss (q := l0.length) (e := y) (by rw [hl]; simp) hy hk]
      simp
  · have hy : n.list[l0.length]? = some x := by rw [h0]; simp
    rw [plc_hit (q := l0.length) (e := x) (by rw [hl]; simp) hy hx]
    simp
theorem Thr.wth {n : Nod} {e : Ent} (h : Thr e.key n.list l0 m l2) : (wth n e).list = l0 ++ e :: l2 := by
  unfold Bk.wth wl
  rw [h.plc]
  dsimp only
  rw [Int.toNat_natCast, h.eq]
  rcases h.md with rfl | ⟨x, rfl, hx⟩
  · simp
  · simp
theorem Thr.erase {n : Nod} (h : Thr key n.list l0 m l2) (hm : m ≠ []) : n.list.eraseIdx (Bk.plc n key).1.toNat = l0 ++ l2 := by
  rw [h.plc]
  dsimp only
  rw [Int.toNat_natCast, h.eq]
  rcases h.md with rfl | ⟨x, rfl, hx⟩
  · exact absurd rfl hm
  · rw [List.eraseIdx_append_of_length_le (Nat.le_refl _), Nat.sub_self]
    rfl
/-- In a longer row. -/
theorem Thr.wide (h : Thr key l l0 m l2) {A B : List Ent} (hA : ∀ e, e ∈ A → lt e.key key = true) (hB : ∀ e, e ∈ B → lt key e.key = true) : Thr key (A ++ (l ++ B)) (A ++ l0) m (l2 ++ B) := by
  obtain ⟨rfl, h1, h2, h3⟩ := h
  refine ⟨by simp only [List.append_assoc], fun e he => ?_, fun e he => ?_, h3⟩
  · rcases List.mem_append.1 he with he | he
    · exact hA e he
    · exact h1 e he
  · rcases List.mem_append.1 he with he | he
    · exact h2 e he
    · exact hB e he
theorem Thr.filters {a b c : List Ent} (h : Thr key l a b c) : l.filter (fun e => lt e.key key) = a ∧ l.filter (fun e => decide (e.key = key)) = b ∧ l.filter (fun e => lt key e.key) = c ∧ l.filter (fun e => !decide (e.key = key)) = a ++ c := by
  obtain ⟨rfl, h1, h2, h3⟩ := h
  have hm : ∀ e, e ∈ b → e.key = key := by
    rcases h3 with rfl | ⟨x, rfl, hx⟩
    · simp
    · intro e he; rw [List.mem_singleton.1 he]; exact hx
  simp only [List.filter_append]
  refine ⟨?_, ?_, ?_, ?_⟩
  · rw [List.filter_eq_self.2 h1, List.filter_eq_nil_iff.2 (fun e he => by rw [hm e he, lt_irrefl]; decide), List.filter_eq_nil_iff.2 (fun e he => by rw [not_lt.2 (le_of_lt (h2 e he))]; decide)]
    simp
  · rw [List.filter_eq_nil_iff.2 (fun e he => by simpa using lt_ne (h1 e he)), List.filter_eq_self.2 (fun e he => by simpa using hm e he), List.filter_eq_nil_iff.2 (fun e he => by simpa using (lt_ne (h2 e he)).symm)]
    simp
  · rw [List.filter_eq_nil_iff.2 (fun e he => by rw [not_lt.2 (le_of_lt (h1 e he))]; decide), List.filter_eq_nil_iff.2 (fun e he => by rw [hm e he, lt_irrefl]; decide), List.filter_eq_self.2 h2]
    simp
  · rw [List.filter_eq_self.2 (fun e he => by simpa using lt_ne (h1 e he)), List.filter_eq_nil_iff.2 (fun e he => by simpa using hm e he), List.filter_eq_self.2 (fun e he => by simpa using (lt_ne (h2 e he)).symm)]
    simp
theorem thr_uniq {l0' m' l2' : List Ent} (h : Thr key l l0 m l2) (h' : Thr key l l0' m' l2') : l0 = l0' ∧ m = m' ∧ l2 = l2' := by
  obtain ⟨rfl, rfl, rfl, -⟩ := h.filters
  obtain ⟨e1, e2, e3, -⟩ := h'.filters
  exact ⟨e1, e2, e3⟩
end
/-- One more, or another one. -/
def ins (e : Ent) (l : List Ent) : List Ent := l.filter (fun x => lt x.key e.key) ++ e :: l.filter (fun x => lt e.key x.key)
def del (key : By) (l : List Ent) : List Ent := l.filter fun x => !decide (x.key = key)
theorem Thr.ins {e : Ent} {l l0 m l2 : List Ent} (h : Thr e.key l l0 m l2) : ins e l = l0 ++ e :: l2 := by
  obtain ⟨e1, -, e3, -⟩ := h.filters
  unfold Bk.ins
  rw [e1, e3]
theorem Thr.del {key : By} {l l0 m l2 : List Ent} (h : Thr key l l0 m l2) : del key l = l0 ++ l2 := h.filters.2.2.2
theorem rp_lo (e : Ent) : ∀ (l s : List Ent) (b : Bool), (∀ x, x ∈ l → lt x.key e.key = true) → l.foldl (rp e) (s, b) = (s ++ l, b)
  | [], s, b, _ => by simp
  | x :: l, s, b, h => by
    rw [List.foldl_cons, rp, if_pos (h x List.mem_cons_self), rp_lo e l _ _ (fun y hy => h y (List.mem_cons_of_mem _ hy))]
    simp
theorem rp_hi (e : Ent) : ∀ (l s : List Ent), (∀ x, x ∈ l → lt e.key x.key = true) → l.foldl (rp e) (s, true) = (s ++ l, true)
  | [], s, _ => by simp
  | x :: l, s, h => by
    have h1 := h x List.mem_cons_self
    rw [List.foldl_cons, rp, if_neg (by rw [not_lt.2 (le_of_lt h1)]; decide), if_neg (lt_ne h1).symm]
    dsimp only [if_true]
    rw [rp_hi e l _ (fun y hy => h y (List.mem_cons_of_mem _ hy))]
    simp
theorem rp_gt {e x : Ent} (h : lt e.key x.key = true) (s : List Ent × Bool) : rp e s x = ((if s.2 then s.1 else s.1 ++ [e]) ++ [x], true) := by
  rw [rp, if_neg (by rw [not_lt.2 (le_of_lt h)]; decide), if_neg (lt_ne h).symm]
theorem rp_eq {e x : Ent} (h : x.key = e.key) (s : List Ent × Bool) : rp e s x = ((if s.2 then s.1 else s.1 ++ [e]), true) := by
  rw [rp, if_neg (by rw [h, lt_irrefl]; decide), if_pos h, List.append_nil]
theorem Thr.fold {e : Ent} {l l0 m l2 : List Ent} (h : Thr e.key l l0 m l2) : l.foldl (rp e) ([], false) = if m = [] ∧ l2 = [] then (l0, false) else (l0 ++ e :: l2, true) := by
  obtain ⟨rfl, h1, h2, h3⟩ := h
  rw [List.foldl_append, rp_lo e l0 _ _ h1, List.nil_append]
  rcases h3 with rfl | ⟨x, rfl, hx⟩
  · cases l2 with
    | nil => simp
    | cons y l2 =>
      rw [List.nil_append, List.foldl_cons, rp_gt (h2 y List.mem_cons_self), rp_hi e l2 _ (fun z hz => h2 z (List.mem_cons_of_mem _ hz))]
      simp
  · rw [List.cons_append, List.nil_append, List.foldl_cons, rp_eq hx, rp_hi e l2 _ h2]
    simp
theorem Thr.putE {e : Ent} {l l0 m l2 : List Ent} (h : Thr e.key l l0 m l2) : putE l e = l0 ++ e :: l2 := by
  unfold Bk.putE
  rw [h.fold]
  by_cases hc : m = [] ∧ l2 = []
  · rw [if_pos hc, hc.2]
    simp
  · rw [if_neg hc]
    simp
theorem putE_ins {e : Ent} {l : List Ent} (h : Srt l) : putE l e = ins e l := by
  obtain ⟨l0, m, l2, ht⟩ := srt_three e.key h
  rw [ht.putE, ht.ins]
theorem ins_srt {e : Ent} {l : List Ent} (h : Srt l) : Srt (ins e l) := by
  obtain ⟨l0, m, l2, ht⟩ := srt_three e.key h
  rw [ht.ins]
  obtain ⟨h1, h2⟩ := ht.srt h
  refine List.pairwise_append.2 ⟨h1, List.pairwise_cons.2 ⟨ht.hi, h2⟩, fun x hx y hy => ?_⟩
  rcases List.mem_cons.1 hy with rfl | hy
  · exact ht.lo x hx
  · exact lt_trans _ _ _ (ht.lo x hx) (ht.hi y hy)
/-! On a tree. -/
section
variable {S : Sf} {r : Nat} {t : Int} {top : Nat} {ch : Nat → List Nat}
theorem way_getLast (S : Sf) (ch : Nat → List Nat) (key : By) : ∀ n L, ∃ Q, way S ch key L n = Q ++ [((fnd S key (ch (L - n)) : Int), S (fnd S key (ch (L - n))))]
  | 0, L => ⟨[], rfl⟩
  | n + 1, L => by
    obtain ⟨Q, h⟩ := way_getLast S ch key n (L - 1)
    refine ⟨((fnd S key (ch L) : Int), S (fnd S key (ch L))) :: Q, ?_⟩
    rw [way, h, show L - 1 - n = L - (n + 1) by omega]
    rfl
theorem tree_so (T : Tree S r t top ch) (key : By) (hk : le low key = true) (lv : Nat) (hlv : lv ≤ top) (ht : top < 299) : so S r lv key = ⟨0, 0, (fnd S key (ch lv) : Int), S (fnd S key (ch lv))⟩ := by
  obtain ⟨left', hs⟩ := T.seek key hk lv hlv ht
  obtain ⟨Q, hw⟩ := way_getLast S ch key (top - lv) top
  have := so_ok (S := S) (root := r) (level := lv) (key := key) (Q := Q) (p := (fnd S key (ch (top - (top - lv))) : Int)) (n := S (fnd S key (ch (top - (top - lv))))) (by rw [hs]) (by rw [hs]; exact hw)
  rw [this, show top - (top - lv) = lv by omega]
/-- A key's leaf, and the entries about it. -/
theorem tree_leaf (T : Tree S r t top ch) (key : By) (hk : le low key = true) : ∃ A l B, Pos S t 0 (ch 0) A l (fnd S key (ch 0)) B ∧ le l key = true ∧ cov (S (fnd S key (ch 0))) key = true ∧
    lists S (ch 0) = lists S A ++ ((S (fnd S key (ch 0))).list ++ lists S B) ∧ (∀ e, e ∈ lists S A → lt e.key key = true) ∧ (∀ e, e ∈ lists S B → lt key e.key = true) := by
  obtain ⟨A, l, B, hp, h1, h2, h3⟩ := (T.lvl 0 (Nat.zero_le _)).find key hk
  refine ⟨A, l, B, hp, h1, h2, ?_, ?_, ?_⟩
  · rw [← lists_cons, ← lists_app, ← hp.eq]
  · intro e he
    obtain ⟨p0, hpre⟩ := hp.pre
    exact lt_le (seg_below hpre e he) h1
  · intro e he
    have hpost := hp.post
    cases B with
    | nil => cases he
    | cons b B =>
      have hh := seg_has hpost
      rw [hiN_has hh] at hpost
      unfold cov at h2
      rw [hh, Bool.not_true, Bool.false_or] at h2
      exact lt_le h2 (seg_ge hpost e he)
end
end Go.Proofs.Ytfahgejiclgbfaa.Bk
end
