/- Texts of ours, joined. -/
import Derived.Test.YthoaangmekkcmaaBmT
import Derived.Test.YthoaangmekkcmaaBkAc
import Derived.Test.YthoaangmekkcmaaBkZ
import Derived.Test.YthoaangmekkcmaaTrP
import Derived.Test.YthoaangmekkcmaaNdS
import Derived.Test.YthoaangmekkcmaaNdV
import Derived.Deep.DeepCutAuto
import Derived.Test.YthoaangmekkcmaaBmF
import Derived.Test.YthoaangmekkcmaaBkPu
import Derived.Test.YthoaangmekkcmaaBkVa
import Derived.Test.YthoaangmekkcmaaWkU
import Derived.Test.YthoaangmekkcmaaBmW
import Derived.Test.YthoaangmekkcmaaBmK
import Derived.Test.YthoaangmekkcmaaBmM

-- joined
section
namespace Go.Proofs.Ythoaangmekkcmaa.Bk
open Nt Nd
set_option linter.unusedVariables false
set_option linter.unusedSimpArgs false
set_option linter.unusedSectionVars false
section
variable {S : Sf} {r : Nat} {t : Int} {top : Nat} {ch : Nat → List Nat}
theorem pos_first {L : Nat} {ps A B : List Nat} {l : By} {c : Nat} (h : Pos S t L ps A l c B) (hl : le l low = true) : A = [] ∧ l = low := by
  cases A with
  | nil =>
    obtain ⟨p0, h1⟩ := h.pre
    exact ⟨rfl, (Option.some.inj h1.1).symm⟩
  | cons a A =>
    exfalso
    obtain ⟨p0, h1⟩ := h.pre
    have := lt_le (seg_lt h1) hl
    rw [lt_irrefl] at this
    cases this
theorem Tree.sk_low (T : Tree S r t top ch) (lv : Nat) : ∀ (n : Nat) (c : Nat) (B : List Nat) (left f : Nat) (path : List (Int × Nod)), lv + n ≤ top → Pos S t (lv + n) (ch (lv + n)) [] low c B → n ≤ left → n < f → Bk.sk S lv low f ⟨left, 0, c, S c⟩ path = (left - n, 0, path ++ way S ch low (lv + n) n)
  | 0, c, B, left, f, path, h1, h2, h3, h5 => by
    obtain ⟨A', l', B', g1, g2, g3, g4⟩ := (T.lvl _ h1).find low (le_refl _)
    obtain ⟨rfl, rfl⟩ := pos_first g1 g2
    obtain ⟨f, rfl⟩ : ∃ k, f = k + 1 := ⟨f - 1, by omega⟩
    have e2 : c :: B = [] ++ fnd S low (ch (lv + 0)) :: B' := (h2.eq.symm.trans g1.eq)
    have hr := rgt_to low [] left h2.ok h2.post e2 (fun a ha => by cases ha) g3 (Nat.zero_le _)
    exact sk_at S lv low f _ ⟨left, 0, (fnd S low (ch (lv + 0)) : Int), S (fnd S low (ch (lv + 0)))⟩ path rfl hr.symm rfl g1.ok.lv
  | n + 1, c, B, left, f, path, h1, h2, h3, h5 => by
    obtain ⟨A', l', B', g1, g2, g3, g4⟩ := (T.lvl _ h1).find low (le_refl _)
    obtain ⟨rfl, rfl⟩ := pos_first g1 g2
    obtain ⟨f, rfl⟩ : ∃ k, f = k + 1 := ⟨f - 1, by omega⟩
    have e2 : c :: B = [] ++ fnd S low (ch (lv + (n + 1))) :: B' := (h2.eq.symm.trans g1.eq)
    have hr := rgt_to low [] left h2.ok h2.post e2 (fun a ha => by cases ha) g3 (Nat.zero_le _)
    obtain ⟨i, e, A2, d, B2, k1, k2, k3, k4, k5, k6⟩ := T.down (L := lv + n) (by omega) g1 g2
    obtain ⟨rfl, hek⟩ := pos_first k4 k3
    rw [hek] at k4
    have hd : d < 256 := T.bnd (lv + n) d (by omega) (by rw [k4.eq]; simp)
    have hbl := blw_to (S := S) (left := left) g1.ok.lv k2 k5 k6 hd k4.ok.lv (by omega)
    have hs := T.sk_low lv n d B2 (left - 1) f (path ++ [((fnd S low (ch (lv + (n + 1))) : Int), S (fnd S low (ch (lv + (n + 1)))))]) (by omega) k4 (by omega) (by omega)
    rw [sk_go S lv low f _ _ path rfl hr.symm rfl (by rw [g1.ok.lv]; omega)]
    dsimp only
    rw [List.length_nil, Nat.sub_zero] at *
    rw [k1, hbl, hs, List.append_assoc, show left - 1 - n = left - (n + 1) by omega]
    rfl
/-- All from a leaf on. -/
theorem lgo_tree {ps : List Nat} : ∀ (B A : List Nat) (l : By) (p left : Nat) (acc : List Ent), Pos S t 0 ps A l p B → B.length ≤ left → (∀ b, b ∈ ps → b < 256) → lgo S left (S p) acc = (0, acc ++ lists S B)
  | [], A, l, p, left, acc, h, hl, hb => by
    have hh : (S p).has = false := by
      have hpost := h.post
      cases g : (S p).has with
      | false => rfl
      | true => rw [hiN_has g] at hpost; cases hpost.1
    rw [lgo_end _ _ _ _ (h.ok.nr hh)]
    simp [lists]
  | b :: B, A, l, p, left, acc, h, hl, hb => by
    have hh : (S p).has = true := seg_has h.post
    have hr := right_ok h.ok
    have hpost := h.post
    rw [hiN_has hh] at hpost
    obtain ⟨g1, ⟨l2, g2, g3⟩, g4⟩ := hpost
    cases g2
    have hrb : (S p).right = b := by omega
    have hb2 : b < 256 := hb b (by rw [h.eq]; simp)
    have hne := h.ok.rt hh
    have h2 : Pos S t 0 ps (A ++ [p]) (S p).high b B := by
      refine ⟨by rw [h.eq]; simp, ?_, g3, g4⟩
      obtain ⟨p0, g⟩ := h.pre
      refine ⟨p0, seg_app.2 ⟨_, _, g, rfl, ⟨l, rfl, h.ok⟩, ?_⟩⟩
      rw [hiN_has hh]
      exact ⟨rfl, by omega⟩
    obtain ⟨left, rfl⟩ : ∃ k, left = k + 1 := ⟨left - 1, by simp at hl; omega⟩
    unfold lgo
    rw [if_neg hne, hrb, at_page _ (by omega) (by omega)]
    dsimp only
    rw [Int.toNat_natCast, if_neg (by rw [g3.lv]; simp)]
    rw [lgo_tree B (A ++ [p]) _ b left _ h2 (by simp at hl; omega) hb, lists_cons, List.append_assoc]
end
section
variable {S : Sf} {l : List Ent} {ps : List Du} {next top : Nat} {ch : Nat → List Nat}
theorem Wg.list (h : Wg S l ps next top ch) : listR S 3 = (0, l) := by
  have ht := h.four
  have h1 := h.tree.pos
  have hf := h.total
  have hs : Bk.seek S 256 3 0 low = (255 - top, 0, way S ch low top top) := by
    have := h.tree.sk_low 0 top 3 [] 255 300 [] (by omega) (by rw [Nat.zero_add]; exact h1) (by omega) (by omega)
    rw [Nat.zero_add, List.nil_append] at this
    unfold Bk.seek
    rw [vis_succ, at_page _ (by omega) (by omega)]
    exact this
  unfold listR
  rw [hs]
  dsimp only
  rw [if_pos rfl]
  obtain ⟨Q, hQ⟩ := way_getLast S ch low top top
  rw [hQ, List.getLast?_append, Nat.sub_self]
  obtain ⟨A, l', B, g1, g2, g3, g4⟩ := (h.tree.lvl 0 (Nat.zero_le _)).find low (le_refl _)
  obtain ⟨rfl, rfl⟩ := pos_first g1 g2
  have hlen : (ch 0).length = B.length + 1 := by rw [g1.eq]; simp
  have hbl : ∀ k, k ≤ top → (ch 0).length + k ≤ belw ch (k + 1) := by
    intro k
    induction k with
    | zero => intro _; show (ch 0).length + 0 ≤ 0 + (ch 0).length; omega
    | succ k ih =>
      intro hk
      have h1 := ih (by omega)
      have h2 : 1 ≤ (ch (k + 1)).length := by
        obtain ⟨p0, hl⟩ := h.tree.lvl (k + 1) hk
        cases hc : ch (k + 1) with
        | nil => rw [hc] at hl; cases hl.1
        | cons a A => simp
      show _ ≤ belw ch (k + 1) + (ch (k + 1)).length
      omega
  have := lgo_tree B [] low (fnd S low (ch 0)) (255 - top) (S (fnd S low (ch 0))).list g1 (by have := hbl top (Nat.le_refl _); omega) (fun b hb => h.tree.bnd 0 b (Nat.zero_le _) hb)
  have hrow := h.row
  rw [g1.eq, List.nil_append, lists_cons] at hrow
  show lgo S (255 - top) (S (fnd S low (ch 0))) (S (fnd S low (ch 0))).list = _
  rw [this, hrow]
theorem Wg.get (h : Wg S l ps next top ch) (key : By) (hk : key.length = 9) : ∃ e, getR S 3 key = (0, decide (key ∈ l.map Ent.key), e) ∧ ∀ x, x ∈ l → x.key = key → e = x := by
  have ht := h.four
  have hlow := low_le _ hk
  obtain ⟨A, l1, B, hp, h1, h2, h3, h4, h5⟩ := tree_leaf h.tree key hlow
  have hso' : so S 3 0 key = ⟨0, 0, (fnd S key (ch 0) : Int), S (fnd S key (ch 0))⟩ := tree_so h.tree key hlow 0 (Nat.zero_le _) (by omega)
  rw [h.row] at h3
  generalize hc : fnd S key (ch 0) = c at *
  have hsr := good_srt (fits_good hp.ok.ft).1
  obtain ⟨l0, m, l2, th⟩ := srt_three key hsr
  have thw := th.wide h4 h5
  rw [← h3] at thw
  unfold getR
  rw [hso']
  dsimp only
  rw [if_pos rfl, th.plc]
  dsimp only
  rcases th.md with rfl | ⟨x, rfl, hx⟩
  · have hno : key ∉ l.map Ent.key := by
      intro hm
      obtain ⟨y, hy, hy2⟩ := List.mem_map.1 hm
      rw [thw.eq, List.nil_append] at hy
      rcases List.mem_append.1 hy with hy | hy
      · exact lt_ne (thw.lo y hy) hy2
      · exact lt_ne (thw.hi y hy) hy2.symm
    refine ⟨⟨[], [], false⟩, ?_, fun x hx hxk => absurd (List.mem_map.2 ⟨x, hx, hxk⟩) hno⟩
    rw [decide_eq_false hno]
    rfl
  · have hxm : x ∈ l := by rw [thw.eq]; simp
    refine ⟨x, ?_, fun y hy hyk => ?_⟩
    · rw [decide_eq_true (List.mem_map.2 ⟨x, hxm, hx⟩), Int.toNat_natCast, th.eq, List.getElem?_append_right (Nat.le_refl _), Nat.sub_self]
      rfl
    · rw [thw.eq] at hy
      rcases List.mem_append.1 hy with hy | hy
      · exact absurd hyk (lt_ne (thw.lo y hy))
      · rcases List.mem_append.1 hy with hy | hy
        · exact (List.mem_singleton.1 hy).symm
        · exact absurd hyk.symm (lt_ne (thw.hi y hy))
end
end Go.Proofs.Ythoaangmekkcmaa.Bk
end

-- joined
section
namespace Go.Proofs.Ythoaangmekkcmaa.Bk
open Go.ChangeShapes Go.WideShapes Go.ChangeAt Go.RowKit Go.PlainAid Aid Nt Nd Tr
open Ky (keyZ key_any)
set_option linter.unusedVariables false
set_option linter.unusedSimpArgs false
set_option linter.unusedSectionVars false
theorem aWd_three {w0 w : World} {O0 : Nat → Prop} {g gs : Nat} {S : Sf} {V : Nat → Value} {vl vp : Value} {l : List Ent} {ps : List Po} {n : Int} {C : Asn} (h : Own w0 O0 w (aWd g gs S V vl l vp ps n * C)) :
    w.cell? ⟨g, 0, none⟩ = some (.pointer (some ⟨gs, 0, none⟩)) ∧ w.cell? ⟨g, 3, none⟩ = some (.int .i64 n) := by
  unfold aWd sPtr at h
  obtain ⟨c0, c1, c2, c3⟩ := post_cellsB (h.has (Has.l (Has.l (has_blk g _ _))))
  exact ⟨c0, c3⟩
/-- The law's world behind any deeds. -/
structure Wx (g gs : Nat) (w0 wr : World) (S : Sf) (V : Nat → Value) (vl : Value) (l : List Ent) (vp : Value) (ps : List Du) (n top : Nat) (ch : Nat → List Nat) : Prop where
  ws : WS S l ps n top ch
  nn : n ≤ 256
  own : Own w0 No wr (aWd g gs S V vl l vp (ps.map du) n * Asn.emp)
end Go.Proofs.Ythoaangmekkcmaa.Bk
end

-- joined
section
namespace Go.Proofs.Ythoaangmekkcmaa.Wk
open Go.ChangeShapes Go.WideShapes Go.ChangeAt Go.RowKit Go.PlainAid Aid Nt Nd Tr Bk
set_option linter.unusedVariables false
set_option linter.unusedSimpArgs false
set_option linter.unusedSectionVars false
end Go.Proofs.Ythoaangmekkcmaa.Wk
end

-- joined
section
namespace Go.Proofs.Ythoaangmekkcmaa.Wk
open Go.ChangeShapes Go.WideShapes Go.ChangeAt Go.RowKit Go.PlainAid Aid Nt Nd Tr Bk
set_option linter.unusedVariables false
set_option linter.unusedSimpArgs false
set_option linter.unusedSectionVars false
end Go.Proofs.Ythoaangmekkcmaa.Wk
end

-- joined
section
namespace Go.Proofs.Ythoaangmekkcmaa.Wk
open Go.ChangeShapes Go.WideShapes Go.ChangeAt Go.RowKit Go.PlainAid Aid Nt Nd Tr Bk
open Ky (keyZ)
set_option linter.unusedVariables false
set_option linter.unusedSimpArgs false
set_option linter.unusedSectionVars false
/-- A slice of numbers that came in. -/
def IntRow (w : World) (A : Option Addr) (m : Nat) (z : Nat → Int) : Prop :=
  m = 0 ∨ ∃ b o, A = some ⟨b, o, none⟩ ∧ b < w.heap.size ∧ (∀ i, i < m → w.cell? ⟨b, o + i, none⟩ = some (.int .i64 (z i))) ∧ ∀ i, i < m → I64 (z i)
theorem IntRow.at {w : World} {A : Option Addr} {m : Nat} {z : Nat → Int} (h : IntRow w A m z) (k : Nat) (hk : k < m) :
    ∃ b o, A = some ⟨b, o, none⟩ ∧ (∀ W D, Own w No W D → W.cell? ⟨b, o + k, none⟩ = some (.int .i64 (z k))) ∧ I64 (z k) := by
  rcases h with h | ⟨b, o, rfl, hl, hc, hz⟩
  · omega
  · exact ⟨b, o, rfl, fun W D h => by rw [(bcell h.bel).1 _ _ hl]; exact hc k hk, hz k hk⟩
set_option maxRecDepth 100000 in
set_option maxHeartbeats 16000000 in
theorem same10_any (l : List Ent) (va vb : Value) (w : World) (ha : Row3 w va l) (hb : Row3 w vb l) :
    Calls Try.prog 14 #[va, vb] w fun e w' => e = .returned (.bool true) ∧ Own w No w' Asn.emp := by
  obtain ⟨A, c, rfl⟩ := ha.slice
  obtain ⟨B, d, rfl⟩ := hb.slice
  have hml := ha.len.2
  unfold maxLen at hml
  have HA := Lib.hid ha
  have HB := Lib.hid hb
  have S0 := Lib.hid (Own.none w)
  clear ha hb
  go_enter Try.func14, Try.ntmps14
  go_wp2_with fail
  go_loopw [5] (fun i wr => ∃ k : Nat, k ≤ l.length ∧ i = .int .i64 k ∧ Hid (Own w No wr Asn.emp)) (fun i _ => l.length - (intOf i).toNat)
  case atStart => exact ⟨0, Nat.zero_le _, rfl, S0⟩
  case round =>
    clear S0
    obtain ⟨k, hk, rfl, S1⟩ := hrel
    by_cases hlt : k < l.length
    · obtain ⟨x, hx⟩ : ∃ x, l[k]? = some x := ⟨l[k]'(by omega), List.getElem?_eq_getElem _⟩
      obtain ⟨b1, o1, rfl, hb1, a0, a1, a2⟩ := (HA.out.keep S1.out.bel).at hx
      obtain ⟨b2, o2, rfl, hb2, d0, d1, d2⟩ := (HB.out.keep S1.out.bel).at hx
      clear hx
      go_wp2_with fail
      go_quiet (fail)
      have S2 := Lib.hid (S1.out.drewN nq)
      clear S1 a0 a1 a2 d0 d1 d2
      generalize wr.drewN nq = w2 at *
      go_wp2_with fail
      go_round
      case rel => exact ⟨k + 1, by omega, by go_num, S2⟩
      case measure => simp only [intOf]; omega
    · obtain rfl : k = l.length := by omega
      go_wp2_with fail
      go_returns
      exact ⟨rfl, S1.out⟩
end Go.Proofs.Ythoaangmekkcmaa.Wk
end

-- joined
section
namespace Go.Proofs.Ythoaangmekkcmaa.Bk
open Go.ChangeShapes Go.WideShapes Go.ChangeAt Go.RowKit Go.PlainAid Aid Nt Nd Tr
open Ky (keyZ key_any)
set_option linter.unusedVariables false
set_option linter.unusedSimpArgs false
set_option linter.unusedSectionVars false
end Go.Proofs.Ythoaangmekkcmaa.Bk
end

-- joined
section
namespace Go.Proofs.Ythoaangmekkcmaa.Bk
open Nt Nd
set_option linter.unusedVariables false
set_option linter.unusedSimpArgs false
set_option linter.unusedSectionVars false
def upto (A : List Nat) (k : Nat) : List Nat := A.filter fun p => decide (p < k)
theorem upto_cons (a : Nat) (A : List Nat) (k : Nat) : upto (a :: A) k = if a < k then a :: upto A k else upto A k := by
  unfold upto
  rw [List.filter_cons]
  by_cases h : a < k
  · rw [if_pos (by simpa using h), if_pos h]
  · rw [if_neg (by simpa using h), if_neg h]
theorem upto_len : ∀ {A : List Nat} (k : Nat), A.Nodup → (upto A (k + 1)).length = (upto A k).length + if k ∈ A then 1 else 0
  | [], k, _ => by simp [upto]
  | a :: A, k, h => by
    obtain ⟨h1, h2⟩ := List.nodup_cons.1 h
    have ih := upto_len k h2
    rw [upto_cons, upto_cons]
    by_cases e : a = k
    · subst e
      rw [if_neg h1] at ih
      rw [if_pos (Nat.lt_succ_self a), if_neg (Nat.lt_irrefl a), if_pos List.mem_cons_self, List.length_cons]
      omega
    · have hm : (k ∈ a :: A) ↔ k ∈ A := by
        rw [List.mem_cons]
        exact ⟨fun g => g.resolve_left fun q => e q.symm, Or.inr⟩
      simp only [hm]
      by_cases g : a < k
      · rw [if_pos (by omega), if_pos g, List.length_cons, List.length_cons]
        omega
      · rw [if_neg (by omega), if_neg g]
        exact ih
theorem upto_lists {S : Sf} : ∀ {A : List Nat} (k : Nat), A.Nodup → (lists S (upto A (k + 1))).length = (lists S (upto A k)).length + if k ∈ A then (S k).list.length else 0
  | [], k, _ => by simp [upto, lists]
  | a :: A, k, h => by
    obtain ⟨h1, h2⟩ := List.nodup_cons.1 h
    have ih := upto_lists (S := S) k h2
    rw [upto_cons, upto_cons]
    by_cases e : a = k
    · subst e
      rw [if_neg h1] at ih
      rw [if_pos (Nat.lt_succ_self a), if_neg (Nat.lt_irrefl a), if_pos List.mem_cons_self, lists_cons, List.length_append]
      omega
    · have hm : (k ∈ a :: A) ↔ k ∈ A := by
        rw [List.mem_cons]
        exact ⟨fun g => g.resolve_left fun q => e q.symm, Or.inr⟩
      simp only [hm]
      by_cases g : a < k
      · rw [if_pos (by omega), if_pos g, lists_cons, lists_cons, List.length_append, List.length_append]
        omega
      · rw [if_neg (by omega), if_neg g]
        exact ih
theorem upto_all {A : List Nat} {k : Nat} (h : ∀ a, a ∈ A → a < k) : upto A k = A := List.filter_eq_self.2 fun a ha => by simpa using h a ha
theorem upto_none {A : List Nat} {k : Nat} (h : ∀ a, a ∈ A → k ≤ a) : upto A k = [] := List.filter_eq_nil_iff.2 fun a ha => by have := h a ha; simp; omega
section
variable {S : Sf} {l : List Ent} {ps : List Du} {next top : Nat} {ch : Nat → List Nat}
/-- What the law counts: nodes of a level among the pages ahead of k; and the entries of the level above among them. -/
def cnts (ch : Nat → List Nat) (top k j : Nat) : Nat := if j ≤ top then (upto (ch j) k).length else 0
def leds (S : Sf) (ch : Nat → List Nat) (top k j : Nat) : Nat := if j < top then (lists S (upto (ch (j + 1)) k)).length else 0
/-- A page of no level: nothing more. -/
theorem Wg.cnt_no (h : Wg S l ps next top ch) {k : Nat} (hk : ∀ K, K ≤ top → k ∉ ch K) (j : Nat) : cnts ch top (k + 1) j = cnts ch top k j ∧ leds S ch top (k + 1) j = leds S ch top k j := by
  unfold cnts leds
  constructor
  · by_cases hj : j ≤ top
    · rw [if_pos hj, if_pos hj, upto_len k (h.tree.nod j hj), if_neg (hk j hj), Nat.add_zero]
    · rw [if_neg hj, if_neg hj]
  · by_cases hj : j < top
    · rw [if_pos hj, if_pos hj, upto_lists k (h.tree.nod (j + 1) (by omega)), if_neg (hk (j + 1) (by omega)), Nat.add_zero]
    · rw [if_neg hj, if_neg hj]
/-- A page of a level: one more of it, and its entries. -/
theorem Wg.cnt_yes (h : Wg S l ps next top ch) {k L : Nat} (hL : L ≤ top) (hk : k ∈ ch L) (j : Nat) :
    cnts ch top (k + 1) j = (if j = L then cnts ch top k j + 1 else cnts ch top k j) ∧ leds S ch top (k + 1) j = (if j + 1 = L then leds S ch top k j + (S k).list.length else leds S ch top k j) := by
  have hu : ∀ K, K ≤ top → (k ∈ ch K ↔ K = L) := fun K hK => ⟨fun g => h.tree.dis K L k hK hL g hk, fun e => by rw [e]; exact hk⟩
  unfold cnts leds
  constructor
  · by_cases hj : j ≤ top
    · rw [if_pos hj, if_pos hj, upto_len k (h.tree.nod j hj)]
      by_cases e : j = L
      · rw [if_pos ((hu j hj).2 e), if_pos e]
      · rw [if_neg (fun g => e ((hu j hj).1 g)), if_neg e]; omega
    · rw [if_neg hj, if_neg hj, if_neg (by omega)]
  · by_cases hj : j < top
    · rw [if_pos hj, if_pos hj, upto_lists k (h.tree.nod (j + 1) (by omega))]
      by_cases e : j + 1 = L
      · rw [if_pos ((hu _ (by omega)).2 e), if_pos e]
      · rw [if_neg (fun g => e ((hu _ (by omega)).1 g)), if_neg e]; omega
    · rw [if_neg hj, if_neg hj, if_neg (by omega)]
theorem Wg.cnt_start (h : Wg S l ps next top ch) (j : Nat) : cnts ch top 3 j = 0 ∧ leds S ch top 3 j = 0 := by
  have hn : ∀ K, K ≤ top → upto (ch K) 3 = [] := fun K hK => upto_none fun a ha => by
    rcases h.pg K a hK ha with g | g <;> omega
  unfold cnts leds
  constructor
  · by_cases hj : j ≤ top
    · rw [if_pos hj, hn j hj]; rfl
    · rw [if_neg hj]
  · by_cases hj : j < top
    · rw [if_pos hj, hn (j + 1) (by omega)]; rfl
    · rw [if_neg hj]
/-- With nothing left to do a level has as many nodes as there are entries above. -/
theorem Wg.cnt_end (h : Wg S l [] next top ch) {j : Nat} (hj : j < top) : cnts ch top next j = leds S ch top next j := by
  have hx := h.nx
  have ha : ∀ K, K ≤ top → upto (ch K) next = ch K := fun K hK => upto_all fun a ha => by
    rcases h.pg K a hK ha with g | g <;> omega
  unfold cnts leds
  rw [if_pos (by omega), if_pos hj, ha j (by omega), ha (j + 1) (by omega)]
  have := (h.pm j hj).length_eq
  rw [List.length_append, kids, List.length_map] at this
  have e : (dues [] j).length = 0 := rfl
  omega
/-- A page is of a level, or empty. -/
theorem Wg.page (h : Wg S l ps next top ch) (k : Nat) : (∃ L, L ≤ top ∧ k ∈ ch L ∧ (S k).level = (L : Int) ∧ (S k).tree = 2) ∨ ((∀ K, K ≤ top → k ∉ ch K) ∧ S k = Nod.none) := by
  by_cases hp : ∃ K, K ≤ top ∧ k ∈ ch K
  · obtain ⟨K, hK, hm⟩ := hp
    left
    obtain ⟨A, B, e⟩ := List.append_of_mem hm
    have hl := h.tree.lvl K hK
    rw [e] at hl
    obtain ⟨l', hp⟩ := hl.pos
    exact ⟨K, hK, hm, hp.ok.lv, hp.ok.tr⟩
  · right
    have hn : ∀ K, K ≤ top → k ∉ ch K := fun K hK hm => hp ⟨K, hK, hm⟩
    exact ⟨hn, h.out k hn⟩
end
end Go.Proofs.Ythoaangmekkcmaa.Bk
end

-- joined
section
namespace Go.Proofs.Ythoaangmekkcmaa.Bk
open Go.ChangeShapes Go.WideShapes Go.ChangeAt Go.RowKit Go.PlainAid Aid Nt Nd Tr
set_option linter.unusedVariables false
set_option linter.unusedSimpArgs false
set_option linter.unusedSectionVars false
/-- An array of twenty numbers. -/
def ar20 (f : Nat → Nat) : Array Value := ((List.range 20).map fun j => Value.int .i64 (f j : Nat)).toArray
def z20 : Array Value := ar20 (fun _ => 0)
theorem ar20_size (f : Nat → Nat) : (ar20 f).size = 20 := by unfold ar20; simp
theorem ar20_at (f : Nat → Nat) {j : Nat} (hj : j < 20) : (ar20 f)[j]? = some (.int .i64 (f j : Nat)) := by
  unfold ar20
  rw [List.getElem?_toArray, List.getElem?_map, List.getElem?_range hj]
  rfl
theorem ar20_set (f : Nat → Nat) (j v : Nat) : (ar20 f).setIfInBounds j (.int .i64 (v : Nat)) = ar20 (fun i => if i = j then v else f i) := by
  unfold ar20
  rw [List.setIfInBounds_toArray]
  congr 1
  apply List.ext_getElem?
  intro i
  rw [List.getElem?_set, List.getElem?_map, List.getElem?_map]
  by_cases hi : i < 20
  · rw [List.getElem?_range hi]
    simp only [Option.map_some, List.length_map, List.length_range]
    by_cases e : j = i
    · subst e
      rw [if_pos rfl, if_pos hi, if_pos rfl]
    · rw [if_neg e, if_neg (fun h => e h.symm)]
  · rw [List.getElem?_eq_none (by simpa using hi)]
    simp only [Option.map_none, List.length_map, List.length_range]
    by_cases e : j = i
    · subst e
      rw [if_pos rfl, if_neg hi]
    · rw [if_neg e]
set_option maxRecDepth 100000 in
theorem run_b20 (W : World) : (Instr.build 65 #[]).run Try.prog W = .ok (.agg z20) W := by kernel_rfl
set_option maxRecDepth 100000 in
theorem run_a20 (W : World) : (Instr.alloc 65 true (.tuple #[])).run Try.prog W = .ok (.pointer (some ⟨W.heap.size, 0, none⟩)) (W.alloc (.cells z20 65)) := by kernel_rfl
theorem list_alloc {P : Program} {ops : Array Oper} {rest : List Oper} {o : Oper} {a : Go.Act} {Q : Exit → Go.Act → World → Prop} {w w' : World} (hgd : o.guard = none) (T : TypeId) (ho : o.op = .alloc T)
    (v : Value) (hr : (Instr.alloc T true (.tuple #[])).run P w = .ok v w') (h : wpList P ops Q rest (a.put o.dst v) w') : wpList P ops Q (o :: rest) a w := by
  refine wpList_plain hgd fun K hK => ?_
  unfold Oper.wp execOp
  simp only [ho, Sem.run_bind, Sem.run_pure, Result.andThen_ok, hr]
  exact hK _ _ h
theorem list_store {P : Program} {ops : Array Oper} {rest : List Oper} {o : Oper} {a : Go.Act} {Q : Exit → Go.Act → World → Prop} {w : World} (hgd : o.guard = none) (hd : o.dst = none) (p x : Operand) (t : TypeId) (ho : o.op = .store t p x)
    (pv xv : Value) (hp : a.eval p = pv) (hx : a.eval x = xv) (w' : World) (hr : (Instr.storeAt t pv xv).run P w = .ok () w') (h : wpList P ops Q rest a w') : wpList P ops Q (o :: rest) a w := by
  refine wpList_plain hgd fun K hK => ?_
  unfold Oper.wp execOp
  subst hp hx
  simp only [ho, Sem.run_bind, Sem.run_pure, Result.andThen_ok, hr]
  rw [Oper.upon_skip, hd]
  exact hK _ _ h
theorem store_20 {w : World} {g : Nat} (h : Blk w g 65 z20) : (Instr.storeAt 65 (.pointer (some ⟨g, 0, none⟩)) (.agg z20)).run Try.prog w = .ok () (w.setRow g z20) := by
  have hsz : z20.size = 20 := ar20_size _
  have hst : (storeCells ⟨g, 0, none⟩ z20.toList).run Try.prog w = .ok () (w.setRow g z20) := by
    have := run_storeCells_at Try.prog g 0 65 z20.toList 0 _ w h (by rw [hsz, Array.length_toList, hsz]; exact Nat.le_refl _) (fun v hv => by
      unfold z20 ar20 at hv
      simp only [List.mem_map, List.mem_range] at hv
      obtain ⟨j, -, rfl⟩ := hv
      rfl)
    rw [this]
    congr 2
  generalize z20 = Z at *
  go_simp
end Go.Proofs.Ythoaangmekkcmaa.Bk
end
