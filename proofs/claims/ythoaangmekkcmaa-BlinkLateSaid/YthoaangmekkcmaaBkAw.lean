/- Texts of ours, joined. -/
import Derived.Test.YthoaangmekkcmaaBkAb
import Derived.Test.YthoaangmekkcmaaBkAc
import Derived.Test.YthoaangmekkcmaaBkX
import Derived.Test.YthoaangmekkcmaaSgP
import Derived.Test.YthoaangmekkcmaaBkT

-- joined
section
namespace Go.Proofs.Ythoaangmekkcmaa.Bk
open Go.ChangeShapes Go.WideShapes Go.ChangeAt Go.RowKit Go.PlainAid Aid Nt Nd Tr
open Ky (keyZ key_any)
set_option linter.unusedVariables false
set_option linter.unusedSimpArgs false
set_option linter.unusedSectionVars false
theorem up_all {q : Nod → Prop} {S : Sf} (h : ∀ p, p < 256 → q (S p)) (L : List (Int × Nod)) (hL : ∀ x, x ∈ L → q x.2) : ∀ p, p < 256 → q (puts S L p) := by
  unfold puts
  induction L generalizing S with
  | nil => exact h
  | cons a l ih =>
    rw [List.foldl_cons]
    refine ih (fun p hp => ?_) (fun x hx => hL x (List.mem_cons_of_mem _ hx))
    unfold putS
    split
    · unfold up
      split
      · exact hL a List.mem_cons_self
      · exact h p hp
    · exact h p hp
theorem Sm.puts {S : Sf} (h : Sm S) {L : List (Int × Nod)} (hL : ∀ x, x ∈ L → x.2.list.length ≤ 99999) : Sm (puts S L) := up_all (q := fun n => n.list.length ≤ 99999) h L hL
theorem LvOk.puts {S : Sf} (h : LvOk S) {L : List (Int × Nod)} (hL : ∀ x, x ∈ L → Low63 x.2) : LvOk (puts S L) := up_all (q := Low63) h L hL
/-- The lists of changes that are owned can be read. -/
theorem aLs_row {w0 w : World} {O0 : Nat → Prop} : ∀ (L : List Sp) {C : Asn}, Own w0 O0 w (aLs L * C) → ∀ x, x ∈ L → Row3 w x.v x.nd.list
  | [], _, _, x, hx => by cases hx
  | y :: L, C, h, x, hx => by
    have h1 : Own w0 O0 w (aEnts y.nd y.v * (aLs L * C)) := by
      have h2 : Own w0 O0 w ((aEnts y.nd y.v * aLs L) * C) := h
      exact h2.re (by ac_rfl)
    rcases List.mem_cons.1 hx with rfl | hx
    · exact Row3.of_vec (show Own w0 O0 w (Asn.vec 44 3 x.v x.nd.list.length (cells3 x.nd.list) * _) from h1).vec
    · exact aLs_row L h1.right x hx
theorem chv_own {w0 W : World} {v : Value} {L : List Sp} {gs : Nat} {S : Sf} {V : Nat → Value} {C : Asn} (hl : L.length ≤ 1000) (h : Own w0 No W (aSf gs S V * (Asn.vec 73 8 v L.length (spL L) * (aLs L * C)))) : ChV W v L := by
  have hv := h.right.vec
  obtain ⟨A, c, rfl⟩ := hv.slice
  refine ⟨A, c, rfl, hl, ?_, aLs_row L h.right.right⟩
  rcases hv.forms with ⟨-, hz⟩ | ⟨g, cap, e, -, -, -⟩
  · exact Or.inl (List.eq_nil_of_length_eq_zero hz)
  · cases e
    exact Or.inr ⟨g, rfl, fun j u hu => hv.cell hu⟩
/-- Put, of changes that are owned. -/
theorem ShPut_own (gs : Nat) (S : Sf) (V : Nat → Value) (L : List Sp) (n : Nat) (hn : L.length = n) (v : Value) (w0 w : World) (C : Asn) (hL : n ≤ 1000) (hl : ∀ x, x ∈ plain L → x.2.list.length ≤ 99999) (hS : Own w0 No w (Asn.vec 73 8 v n (spL L) * (aLs L * (aSf gs S V * C)))) :
    Calls Try.prog 28 #[sPtr gs, v] w fun e w' => e = .returned (.tuple #[]) ∧ ∃ V', Own w0 No w' (aSf gs (puts S (plain L)) V' * C) := by
  subst hn
  refine (ShPut_any gs S V L v w0 w (Asn.vec 73 8 v L.length (spL L) * (aLs L * C)) (fun W S' V' h => chv_own hL h) (fun x hx => ?_) (hS.re (by ac_rfl))).mono ?_
  · have := hl (x.pg, x.nd) (List.mem_map.2 ⟨x, hx, rfl⟩)
    dsimp only at this
    omega
  · rintro e w' ⟨rfl, V', h⟩
    exact ⟨rfl, V', (h.re (show _ = (Asn.vec 73 8 v L.length (spL L) * aLs L) * (aSf gs (puts S (plain L)) V' * C) by ac_rfl)).right⟩
def T0 : Sf := fun _ => Nod.none
def e1 : Ent := ⟨keyZ 1, [97], false⟩
def e2 : Ent := ⟨keyZ 2, [98], false⟩
def T1 : Sf := puts T0 (putR T0 3 e1).2
def T2 : Sf := puts T1 (putR T1 3 e2).2
def T3 : Sf := puts T2 (splitR T2 3 0 (keyZ 1) 5 6).2.1
theorem p1 : (putR T0 3 e1).1 = 0 ∧ (putR T0 3 e1).2.length = 1 ∧ ∀ x, x ∈ (putR T0 3 e1).2 → x.2.list.length ≤ 99999 ∧ x.2.level ≤ 9223372036854775807 := by decide +kernel
theorem p2 : (putR T1 3 e2).1 = 0 ∧ (putR T1 3 e2).2.length = 1 ∧ ∀ x, x ∈ (putR T1 3 e2).2 → x.2.list.length ≤ 99999 ∧ x.2.level ≤ 9223372036854775807 := by decide +kernel
theorem p3 : (splitR T2 3 0 (keyZ 1) 5 6).1 = 0 ∧ (splitR T2 3 0 (keyZ 1) 5 6).2.1.length = 3 ∧ (splitR T2 3 0 (keyZ 1) 5 6).2.2 = (0, 0, [], 0) ∧ ∀ x, x ∈ (splitR T2 3 0 (keyZ 1) 5 6).2.1 → x.2.list.length ≤ 99999 ∧ x.2.level ≤ 9223372036854775807 := by decide +kernel
theorem p4 : getR T3 3 (keyZ 2) = (0, true, ⟨keyZ 2, [98], false⟩) := by decide +kernel
theorem p5 : (vis T3 256 3).err = 0 ∧ (vis T3 256 3).nd.level = 1 := by decide +kernel
theorem m0 : Sm T0 ∧ LvOk T0 := ⟨fun _ _ => Nat.zero_le _, fun _ _ => show (0 : Int) ≤ 9223372036854775807 by decide⟩
theorem m1 : Sm T1 ∧ LvOk T1 := ⟨m0.1.puts fun x hx => (p1.2.2 x hx).1, m0.2.puts fun x hx => (p1.2.2 x hx).2⟩
theorem m2 : Sm T2 ∧ LvOk T2 := ⟨m1.1.puts fun x hx => (p2.2.2 x hx).1, m1.2.puts fun x hx => (p2.2.2 x hx).2⟩
theorem m3 : Sm T3 ∧ LvOk T3 := ⟨m2.1.puts fun x hx => (p3.2.2.2 x hx).1, m2.2.puts fun x hx => (p3.2.2.2 x hx).2⟩
theorem len_one {L : List Sp} {P : List (Int × Nod)} (h : plain L = P) : L.length = P.length := by rw [← h]; simp [plain]
set_option maxRecDepth 100000 in
set_option maxHeartbeats 8000000 in
theorem awake_any (w : World) :
    Calls Try.prog 8 #[] w fun e w' => e = .returned (.bool true) ∧ Below w.heap.size w w' := by
  have HK1 := Lib.hid (fun W => key_any 1 W (by decide) (by decide))
  have HK2 := Lib.hid (fun W => key_any 2 W (by decide) (by decide))
  have HP1 := Lib.hid (fun gs V W h => Put_any gs T0 V m0.1 m0.2 3 e1 w W Asn.emp h)
  have HP2 := Lib.hid (fun gs V W h => Put_any gs T1 V m1.1 m1.2 3 e2 w W Asn.emp h)
  have HSp := Lib.hid (fun gs V W h => Split_any gs T2 V m2.1 m2.2 3 0 (keyZ 1) 5 6 w W Asn.emp h)
  have HG := Lib.hid (fun gs V W C h => Get_any gs T3 V m3.1 m3.2 3 (keyZ 2) w W C h)
  have HH := Lib.hid (fun gs V W C h => Height_any gs T3 V m3.1 m3.2 3 w W C h)
  rw [p4] at HG
  rw [p5.1, p5.2] at HH
  rw [p3.1, p3.2.2.1] at HSp
  rw [p2.1] at HP2
  rw [p1.1] at HP1
  rw [show entCells e1 = #[.string (ofL (keyZ 1)), .string ⟨#[97]⟩, .bool false] from rfl] at HP1
  rw [show entCells e2 = #[.string (ofL (keyZ 2)), .string ⟨#[98]⟩, .bool false] from rfl] at HP2
  unfold pgs at HP1 HP2
  unfold pgs poC at HSp
  unfold pgs entCells at HG
  unfold pgs at HH
  dsimp only at HP1 HP2 HSp HG HH
  rw [show ofL ([] : By) = ⟨#[]⟩ from rfl] at HSp
  rw [show ofL ([98] : By) = ⟨#[98]⟩ from rfl] at HG
  go_enter Try.func8, Try.ntmps8
  go_wp2_with fail
  refine (New_any w).mono ?_
  rintro e w1 ⟨gs, V0, rfl, hX⟩
  have S1 := Lib.hid (show Own w No w1 (aSf gs T0 V0 * Asn.emp) from hX.addEmp)
  clear hX
  unfold sPtr
  go_wp2_with fail
  refine (HK1.out _).mono ?_
  rintro e w2 ⟨rfl, hX⟩
  have S2 := Lib.hid (S1.out.below hX)
  clear hX S1 
  clear HK1
  go_wp2_with fail
  refine (HP1.out _ _ _ S2.out).mono ?_
  rintro e w3 ⟨v, L, rfl, hpl, hX⟩
  have hlen : L.length = 1 := by rw [len_one hpl]; exact p1.2.1
  obtain ⟨A1, A1c, rfl⟩ := hX.vec.slice
  rw [hlen] at hX ⊢
  have HPu := Lib.hid (ShPut_own gs _ _ L 1 hlen (.slice A1 1 A1c) w w3 Asn.emp (by decide) (by rw [hpl]; exact fun x hx => (p1.2.2 x hx).1) hX)
  rw [hpl] at HPu
  clear hX S2 HP1 hlen
  unfold sPtr at HPu
  go_wp2_with fail
  refine HPu.out.mono ?_
  rintro e w4 ⟨rfl, V1, hX⟩
  have S4 := Lib.hid (show Own w No w4 (aSf gs T1 V1 * Asn.emp) from hX)
  clear hX HPu hpl
  go_wp2_with fail
  refine (HK2.out _).mono ?_
  rintro e w5 ⟨rfl, hX⟩
  have S5 := Lib.hid (S4.out.below hX)
  clear hX S4 
  go_wp2_with fail
  refine (HP2.out _ _ _ S5.out).mono ?_
  rintro e w6 ⟨v, L, rfl, hpl, hX⟩
  have hlen : L.length = 1 := by rw [len_one hpl]; exact p2.2.1
  obtain ⟨A2, A2c, rfl⟩ := hX.vec.slice
  rw [hlen] at hX ⊢
  have HPu := Lib.hid (ShPut_own gs _ _ L 1 hlen (.slice A2 1 A2c) w w6 Asn.emp (by decide) (by rw [hpl]; exact fun x hx => (p2.2.2 x hx).1) hX)
  rw [hpl] at HPu
  clear hX S5 HP2 hlen
  unfold sPtr at HPu
  go_wp2_with fail
  refine HPu.out.mono ?_
  rintro e w7 ⟨rfl, V2, hX⟩
  have S7 := Lib.hid (show Own w No w7 (aSf gs T2 V2 * Asn.emp) from hX)
  clear hX HPu hpl
  go_wp2_with fail
  refine (Ky.key_any 1 _ (by decide) (by decide)).mono ?_
  rintro e w8 ⟨rfl, hX⟩
  have S8 := Lib.hid (S7.out.below hX)
  clear hX S7 
  go_wp2_with fail
  refine (HSp.out _ _ _ S8.out).mono ?_
  rintro e w9 ⟨v, L, rfl, hpl, hX⟩
  have hlen : L.length = 3 := by rw [len_one hpl]; exact p3.2.1
  obtain ⟨A3, A3c, rfl⟩ := hX.vec.slice
  rw [hlen] at hX ⊢
  have S9 := Lib.hid (hX.alloc #[.int .i64 0, .int .i64 0, .string ⟨#[]⟩, .int .i64 0] 80)
  clear hX S8 HSp
  go_wp2_with fail
  obtain ⟨g7, hgz⟩ : ∃ g, g = w9.heap.size := ⟨_, rfl⟩
  rw [← hgz] at S9 ⊢
  clear hgz
  generalize World.alloc _ _ = wa at *
  have HPu := Lib.hid (ShPut_own gs _ _ L 3 hlen (.slice A3 3 A3c) w wa (Asn.blk g7 80 #[.int .i64 0, .int .i64 0, .string ⟨#[]⟩, .int .i64 0] * Asn.emp) (by decide) (by rw [hpl]; exact fun x hx => (p3.2.2.2 x hx).1) (S9.out.re (by ac_rfl)))
  rw [hpl] at HPu
  clear S9 hlen
  unfold sPtr at HPu
  refine HPu.out.mono ?_
  rintro e wb ⟨rfl, V3, hX⟩
  have Sb := Lib.hid (show Own w No wb (aSf gs T3 V3 * (Asn.blk g7 80 #[.int .i64 0, .int .i64 0, .string ⟨#[]⟩, .int .i64 0] * Asn.emp)) from hX)
  clear hX HPu hpl
  go_wp2_with fail
  refine (HK2.out _).mono ?_
  rintro e wc ⟨rfl, hX⟩
  have Sc := Lib.hid (Sb.out.below hX)
  clear hX Sb 
  go_wp2_with fail
  refine (HG.out _ _ _ _ Sc.out).mono ?_
  rintro e wd ⟨rfl, hX⟩
  have Sd := Lib.hid (hX.alloc #[.string (ofL (keyZ 2)), .string ⟨#[98]⟩, .bool false] 44)
  clear hX Sc HG HK2
  go_wp2_with fail
  obtain ⟨g9, hgz⟩ : ∃ g, g = wd.heap.size := ⟨_, rfl⟩
  rw [← hgz] at Sd ⊢
  clear hgz
  generalize World.alloc _ _ = we at *
  have HH2 := Lib.hid (HH.out _ _ _ _ (Sd.out.re (show _ = aSf gs T3 V3 * (Asn.blk g9 44 #[.string (ofL (keyZ 2)), .string ⟨#[98]⟩, .bool false] * (Asn.blk g7 80 #[.int .i64 0, .int .i64 0, .string ⟨#[]⟩, .int .i64 0] * Asn.emp)) by ac_rfl)))
  refine HH2.out.mono ?_
  rintro e wf ⟨z, rfl, hz, hX⟩
  obtain rfl : z = 2 := hz trivial (by decide) (by decide)
  have Sf := Lib.hid hX
  clear hX HH2 HH Sd hz
  obtain ⟨⟨c0, c1, c2, c3⟩, -⟩ := four_of (Sf.out.has (Has.r (Has.r (Has.l (has_blk g7 _ _)))))
  have d1 := (Sf.out.has (Has.r (Has.l (has_blk g9 _ _)))).cell 1
  go_wp2_with fail
  go_returns
  exact ⟨rfl, Sf.out.bel⟩
end Go.Proofs.Ythoaangmekkcmaa.Bk
end

-- joined
section
namespace Go.Proofs.Ythoaangmekkcmaa.Bk
open Nt Nd
set_option linter.unusedVariables false
set_option linter.unusedSimpArgs false
set_option linter.unusedSectionVars false
/-- The entries of leaves. -/
def lists (S : Sf) (A : List Nat) : List Ent := A.flatMap fun a => (S a).list
/-- Keys rise. -/
def Srt (l : List Ent) : Prop := l.Pairwise fun a b => lt a.key b.key = true
theorem srt_adj : ∀ (l : List Ent), (∀ j a e, l[j]? = some a → l[j + 1]? = some e → lt a.key e.key = true) → Srt l
  | [], _ => List.Pairwise.nil
  | a :: l, h => by
    have ih := srt_adj l (fun j x y hx hy => h (j + 1) x y (by simpa using hx) (by simpa using hy))
    refine List.pairwise_cons.2 ⟨fun b hb => ?_, ih⟩
    cases l with
    | nil => cases hb
    | cons c l =>
      have hc := h 0 a c rfl rfl
      rcases List.mem_cons.1 hb with rfl | hb
      · exact hc
      · exact lt_trans _ _ _ hc ((List.pairwise_cons.1 ih).1 b hb)
theorem good_srt {n : Nod} (h : Nd.goodB n = true) : Srt n.list := by
  simp only [Nd.goodB, gList, inN, Bool.and_eq_true, decide_eq_true_eq] at h
  obtain ⟨-, -, h11⟩ := h
  refine srt_adj _ fun j a e h1 h2 => ?_
  have := gTo_at n _ (j + 1) h11 (List.getElem?_eq_some_iff.1 h2).1 e h2
  simp only [gAt, Bool.and_eq_true, rise, h1] at this
  exact this.1
theorem good_cov {n : Nod} (h : Nd.goodB n = true) (e : Ent) (he : e ∈ n.list) : cov n e.key = true := by
  simp only [Nd.goodB, gList, inN, Bool.and_eq_true, decide_eq_true_eq] at h
  obtain ⟨-, -, h11⟩ := h
  obtain ⟨i, hi⟩ := List.getElem?_of_mem he
  have := gTo_at n _ i h11 (List.getElem?_eq_some_iff.1 hi).1 e hi
  simp only [gAt, Bool.and_eq_true] at this
  exact this.2.1
theorem lists_app (S : Sf) (A B : List Nat) : lists S (A ++ B) = lists S A ++ lists S B := List.flatMap_append
theorem lists_cons (S : Sf) (a : Nat) (A : List Nat) : lists S (a :: A) = (S a).list ++ lists S A := rfl
section
variable {S : Sf} {t : Int} {L : Nat}
theorem ok_lt {l : By} {n : Nod} (h : Ok t L l n) (hh : n.has = true) (e : Ent) (he : e ∈ n.list) : lt e.key n.high = true := by
  have := good_cov (fits_good h.ft).1 e he
  unfold cov at this
  rw [hh, Bool.not_true, Bool.false_or] at this
  exact this
theorem seg_has {n : Nod} {a p q : Nat} {A : List Nat} {hi : Option By} (h : Seg S t L (hiN n) p (a :: A) hi q) : n.has = true := by
  obtain ⟨_, ⟨l, e, _⟩, _⟩ := h
  unfold hiN at e
  cases hh : n.has with
  | true => rfl
  | false => rw [hh] at e; cases e
theorem hiN_has {n : Nod} (h : n.has = true) : hiN n = some n.high := by
  unfold hiN
  rw [h]
  rfl
theorem seg_ge : ∀ {A : List Nat} {l : By} {p q : Nat} {hi : Option By}, Seg S t L (some l) p A hi q → ∀ e, e ∈ lists S A → le l e.key = true
  | [], _, _, _, _, _, e, he => by cases he
  | [a], l, p, q, hi, ⟨h1, ⟨l', h2, ok⟩, h3⟩, e, he => by
    cases h2
    rw [lists_cons] at he
    rcases List.mem_append.1 he with he | he
    · exact ok.lo e he
    · cases he
  | a :: b :: A, l, p, q, hi, ⟨h1, ⟨l', h2, ok⟩, h3⟩, e, he => by
    cases h2
    rw [lists_cons] at he
    rcases List.mem_append.1 he with he | he
    · exact ok.lo e he
    · have hh := seg_has h3
      rw [hiN_has hh] at h3
      exact le_of_lt (lt_le (ok.hi hh) (seg_ge h3 e he))
theorem seg_srt : ∀ {A : List Nat} {lo : Option By} {p q : Nat} {hi : Option By}, Seg S t L lo p A hi q → Srt (lists S A)
  | [], _, _, _, _, _ => List.Pairwise.nil
  | [a], lo, p, q, hi, ⟨h1, ⟨l', h2, ok⟩, h3⟩ => by
    have e : lists S [a] = (S a).list := by rw [lists_cons]; exact List.append_nil _
    rw [e]
    exact good_srt (fits_good ok.ft).1
  | a :: b :: A, lo, p, q, hi, ⟨h1, ⟨l', h2, ok⟩, h3⟩ => by
    have ih := seg_srt h3
    rw [lists_cons]
    refine List.pairwise_append.2 ⟨good_srt (fits_good ok.ft).1, ih, fun x hx y hy => ?_⟩
    have hh := seg_has h3
    rw [hiN_has hh] at h3
    exact lt_le (ok_lt ok hh x hx) (seg_ge h3 y hy)
theorem seg_below : ∀ {A : List Nat} {lo : Option By} {l : By} {p q : Nat}, Seg S t L lo p A (some l) q → ∀ e, e ∈ lists S A → lt e.key l = true
  | [], _, _, _, _, _, e, he => by cases he
  | a :: A, lo, l, p, q, ⟨h1, ⟨l', h2, ok⟩, h3⟩, e, he => by
    rw [lists_cons] at he
    rcases List.mem_append.1 he with he | he
    · have hh : (S a).has = true := by
        cases A with
        | nil =>
          unfold hiN at h3
          cases hh : (S a).has with
          | true => rfl
          | false => rw [hh] at h3; cases h3.1
        | cons b B => exact seg_has h3
      rw [hiN_has hh] at h3
      exact lt_le (ok_lt ok hh e he) (seg_le h3)
    · exact seg_below h3 e he
end
theorem seg_len {S : Sf} {t : Int} {L : Nat} : ∀ {A : List Nat} {lo : Option By} {p q : Nat} {hi : Option By}, Seg S t L lo p A hi q → ∀ e, e ∈ lists S A → e.key.length = 9
  | [], _, _, _, _, _, e, he => by cases he
  | a :: A, lo, p, q, hi, ⟨h1, ⟨l', h2, ok⟩, h3⟩, e, he => by
    rw [lists_cons] at he
    rcases List.mem_append.1 he with he | he
    · exact (goods (fits_good ok.ft).1).ky e he
    · exact seg_len h3 e he
theorem tree_len {S : Sf} {r : Nat} {t : Int} {top : Nat} {ch : Nat → List Nat} (T : Tree S r t top ch) : ∀ e, e ∈ lists S (ch 0) → e.key.length = 9 := by
  obtain ⟨p0, h⟩ := T.lvl 0 (Nat.zero_le _)
  exact seg_len h
section
variable {S : Sf} {r : Nat} {t : Int} {top : Nat} {ch : Nat → List Nat}
theorem tree_srt (T : Tree S r t top ch) : Srt (lists S (ch 0)) := by
  obtain ⟨p0, h⟩ := T.lvl 0 (Nat.zero_le _)
  exact seg_srt h
end
end Go.Proofs.Ythoaangmekkcmaa.Bk
end
