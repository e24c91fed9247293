/- Trees whose nodes lead to the right, plain: keys in their order, levels, the way down. -/
import Derived.Test.YthoaangmekkcmaaBkF
namespace Go.Proofs.Ythoaangmekkcmaa.Bk
open Nt Nd
set_option linter.unusedVariables false
set_option linter.unusedSimpArgs false
set_option linter.unusedSectionVars false
/-! Which keys stand ahead of which. -/
theorem lt_irrefl : ∀ a : By, lt a a = false
  | [] => rfl
  | x :: a => by
    rw [lt_cons, lt_irrefl a]
    simp [UInt8.lt_iff_toNat_lt]
theorem lt_trans : ∀ a b c : By, lt a b = true → lt b c = true → lt a c = true
  | [], b, [], _, h2 => by cases b <;> simp [lt, Go.Op.bytesLess] at h2
  | [], _, _ :: _, _, _ => rfl
  | _ :: _, [], _, h1, _ => by cases h1
  | _ :: _, _ :: _, [], _, h2 => by cases h2
  | x :: a, y :: b, z :: c, h1, h2 => by
    rw [lt_cons] at h1 h2 ⊢
    simp only [Bool.or_eq_true, Bool.and_eq_true, decide_eq_true_eq, beq_iff_eq, UInt8.lt_iff_toNat_lt] at h1 h2 ⊢
    rcases h1 with h1 | ⟨rfl, h1⟩
    · rcases h2 with h2 | ⟨rfl, h2⟩
      · exact Or.inl (by omega)
      · exact Or.inl h1
    · rcases h2 with h2 | ⟨rfl, h2⟩
      · exact Or.inl h2
      · exact Or.inr ⟨rfl, lt_trans a b c h1 h2⟩
theorem lt_conn : ∀ a b : By, lt a b = false → lt b a = false → a = b
  | [], [], _, _ => rfl
  | [], _ :: _, h, _ => by cases h
  | _ :: _, [], _, h => by cases h
  | x :: a, y :: b, h1, h2 => by
    rw [lt_cons] at h1 h2
    simp only [Bool.or_eq_false_iff, decide_eq_false_iff_not, UInt8.lt_iff_toNat_lt] at h1 h2
    obtain rfl : x = y := UInt8.toNat_inj.1 (by omega)
    simp only [beq_self_eq_true, Bool.true_and] at h1 h2
    rw [lt_conn a b h1.2 h2.2]
theorem le_iff {a b : By} : le a b = true ↔ lt a b = true ∨ a = b := by
  unfold le
  rw [Bool.or_eq_true, decide_eq_true_eq]
theorem le_refl (a : By) : le a a = true := le_iff.2 (Or.inr rfl)
theorem le_of_lt {a b : By} (h : lt a b = true) : le a b = true := le_iff.2 (Or.inl h)
theorem le_trans {a b c : By} (h1 : le a b = true) (h2 : le b c = true) : le a c = true := by
  rcases le_iff.1 h1 with h1 | rfl
  · rcases le_iff.1 h2 with h2 | rfl
    · exact le_of_lt (lt_trans _ _ _ h1 h2)
    · exact le_of_lt h1
  · exact h2
theorem lt_le {a b c : By} (h1 : lt a b = true) (h2 : le b c = true) : lt a c = true := by
  rcases le_iff.1 h2 with h2 | rfl
  · exact lt_trans _ _ _ h1 h2
  · exact h1
theorem le_lt {a b c : By} (h1 : le a b = true) (h2 : lt b c = true) : lt a c = true := by
  rcases le_iff.1 h1 with h1 | rfl
  · exact lt_trans _ _ _ h1 h2
  · exact h2
theorem lt_asymm {a b : By} (h1 : lt a b = true) (h2 : lt b a = true) : False := by
  have := lt_trans _ _ _ h1 h2
  rw [lt_irrefl] at this
  cases this
theorem not_lt {a b : By} : lt a b = false ↔ le b a = true := by
  constructor
  · intro h
    cases hb : lt b a with
    | true => exact le_of_lt hb
    | false => exact le_iff.2 (Or.inr (lt_conn _ _ hb h))
  · intro h
    cases ha : lt a b with
    | false => rfl
    | true =>
      have := lt_le ha h
      rw [lt_irrefl] at this
      cases this
theorem not_le {a b : By} : le a b = false ↔ lt b a = true := by
  constructor
  · intro h
    cases hb : lt b a with
    | true => rfl
    | false => rw [not_lt.1 hb] at h; cases h
  · intro h
    cases ha : le a b with
    | false => rfl
    | true =>
      have := lt_le h ha
      rw [lt_irrefl] at this
      cases this
theorem lt_ne {a b : By} (h : lt a b = true) : a ≠ b := fun e => by
  rw [e, lt_irrefl] at h
  cases h
/-- The key below all others. -/
def low : By := List.replicate 9 0
theorem low_le' : ∀ (k : Nat) (a : By), a.length = k → le (List.replicate k 0) a = true
  | 0, [], _ => rfl
  | k + 1, x :: a, h => by
    have ih := low_le' k a (by simpa using h)
    rw [List.replicate_succ]
    apply not_lt.1
    rw [lt_cons]
    have h0 : decide (x < 0) = false := decide_eq_false (by simp [UInt8.lt_iff_toNat_lt])
    rw [h0, Bool.false_or]
    cases hx : x == 0 with
    | false => rfl
    | true => rw [Bool.true_and]; exact not_lt.2 ih
theorem low_le (a : By) (h : a.length = 9) : le low a = true := low_le' 9 a h

/-! Nodes one behind the other. -/
def hiN (n : Nod) : Option By := if n.has then some n.high else none
structure Ok (t : Int) (L : Nat) (l : By) (n : Nod) : Prop where
  tr : n.tree = t
  lv : n.level = L
  ft : fitsB n = true
  lo : ∀ e, e ∈ n.list → le l e.key = true
  hi : n.has = true → lt l n.high = true
  rt : n.has = true → n.right ≠ 0
  nr : n.has = false → n.right = 0
  fst : 0 < L → ∃ e r, n.list = e :: r ∧ e.key = l
def Seg (S : Sf) (t : Int) (L : Nat) : Option By → Nat → List Nat → Option By → Nat → Prop
  | lo, p, [], hi, q => lo = hi ∧ p = q
  | lo, p, a :: A, hi, q => p = a ∧ (∃ l, lo = some l ∧ Ok t L l (S a)) ∧ Seg S t L (hiN (S a)) (S a).right.toNat A hi q
section
variable {S S' : Sf} {t : Int} {L : Nat}
theorem seg_app : ∀ {A B : List Nat} {lo hi : Option By} {p q : Nat}, Seg S t L lo p (A ++ B) hi q ↔ ∃ m r, Seg S t L lo p A m r ∧ Seg S t L m r B hi q
  | [], B, lo, hi, p, q => by
    constructor
    · intro h; exact ⟨lo, p, ⟨rfl, rfl⟩, h⟩
    · rintro ⟨m, r, ⟨rfl, rfl⟩, h⟩; exact h
  | a :: A, B, lo, hi, p, q => by
    rw [List.cons_append]
    constructor
    · rintro ⟨h1, h2, h3⟩
      obtain ⟨m, r, h4, h5⟩ := seg_app.1 h3
      exact ⟨m, r, ⟨h1, h2, h4⟩, h5⟩
    · rintro ⟨m, r, ⟨h1, h2, h4⟩, h5⟩
      exact ⟨h1, h2, seg_app.2 ⟨m, r, h4, h5⟩⟩
theorem seg_congr : ∀ {A : List Nat} {lo hi : Option By} {p q : Nat}, (∀ a, a ∈ A → S' a = S a) → Seg S t L lo p A hi q → Seg S' t L lo p A hi q
  | [], _, _, _, _, _, h => h
  | a :: A, lo, hi, p, q, hc, h => by
    obtain ⟨h1, h2, h3⟩ := h
    have e := hc a (List.mem_cons_self ..)
    refine ⟨h1, by rw [e]; exact h2, ?_⟩
    rw [e]
    exact seg_congr (fun b hb => hc b (List.mem_cons_of_mem _ hb)) h3
theorem seg_le : ∀ {A : List Nat} {l m : By} {p q : Nat}, Seg S t L (some l) p A (some m) q → le l m = true
  | [], l, m, _, _, h => by cases h.1; exact le_refl _
  | a :: A, l, m, p, q, h => by
    obtain ⟨h1, ⟨l', e, hk⟩, h3⟩ := h
    cases e
    unfold hiN at h3
    cases hh : (S a).has with
    | true =>
      rw [hh, if_pos rfl] at h3
      exact le_of_lt (lt_le (hk.hi hh) (seg_le h3))
    | false =>
      rw [hh, if_neg (by decide)] at h3
      cases A with
      | nil => cases h3.1
      | cons b B => obtain ⟨_, ⟨l, e, _⟩, _⟩ := h3; cases e
theorem seg_lt {a : Nat} {A : List Nat} {l m : By} {p q : Nat} (h : Seg S t L (some l) p (a :: A) (some m) q) : lt l m = true := by
  obtain ⟨h1, ⟨l', e, hk⟩, h3⟩ := h
  cases e
  unfold hiN at h3
  cases hh : (S a).has with
  | true =>
    rw [hh, if_pos rfl] at h3
    exact lt_le (hk.hi hh) (seg_le h3)
  | false =>
    rw [hh, if_neg (by decide)] at h3
    cases A with
    | nil => cases h3.1
    | cons b B => obtain ⟨_, ⟨l, e, _⟩, _⟩ := h3; cases e
/-- A node's place in its level, and where its keys begin. -/
structure Pos (S : Sf) (t : Int) (L : Nat) (ps A : List Nat) (l : By) (c : Nat) (B : List Nat) : Prop where
  eq : ps = A ++ c :: B
  pre : ∃ p0, Seg S t L (some low) p0 A (some l) c
  ok : Ok t L l (S c)
  post : Seg S t L (hiN (S c)) (S c).right.toNat B none 0
def Lvl (S : Sf) (t : Int) (L : Nat) (ps : List Nat) : Prop := ∃ p0, Seg S t L (some low) p0 ps none 0
theorem Lvl.pos {A B : List Nat} {c : Nat} (h : Lvl S t L (A ++ c :: B)) : ∃ l, Pos S t L (A ++ c :: B) A l c B := by
  obtain ⟨p0, h⟩ := h
  obtain ⟨m, r, h1, rfl, ⟨l, rfl, h3⟩, h4⟩ := seg_app.1 h
  exact ⟨l, rfl, ⟨p0, h1⟩, h3, h4⟩
theorem Pos.lvl {ps A B : List Nat} {l : By} {c : Nat} (h : Pos S t L ps A l c B) : Lvl S t L ps := by
  obtain ⟨rfl, ⟨p0, h1⟩, h2, h3⟩ := h
  exact ⟨p0, seg_app.2 ⟨_, _, h1, rfl, ⟨l, rfl, h2⟩, h3⟩⟩
/-- The node that covers a key, from where its keys begin. -/
theorem seg_find (key : By) : ∀ {ps : List Nat} {l : By} {p : Nat}, Seg S t L (some l) p ps none 0 → le l key = true →
    ∃ A l' c B, ps = A ++ c :: B ∧ Seg S t L (some l) p A (some l') c ∧ le l' key = true ∧ cov (S c) key = true ∧ Ok t L l' (S c) ∧ Seg S t L (hiN (S c)) (S c).right.toNat B none 0 ∧ ∀ a, a ∈ A → cov (S a) key = false
  | [], _, _, h, _ => by cases h.1
  | a :: ps, l, p, h, hl => by
    obtain ⟨rfl, ⟨l', e, hk⟩, h3⟩ := h
    cases e
    cases hc : cov (S p) key with
    | true => exact ⟨[], l, p, ps, rfl, ⟨rfl, rfl⟩, hl, hc, hk, h3, fun a ha => by cases ha⟩
    | false =>
      have hc' := hc
      unfold cov at hc'
      cases hh : (S p).has with
      | false => rw [hh] at hc'; cases hc'
      | true =>
        rw [hh, Bool.not_true, Bool.false_or] at hc'
        have e1 : hiN (S p) = some (S p).high := by unfold hiN; rw [hh]; rfl
        have h3' := h3
        rw [e1] at h3'
        obtain ⟨A, l', c, B, rfl, h5, h6, h7, h8, h9, h10⟩ := seg_find key h3' (not_lt.1 hc')
        refine ⟨p :: A, l', c, B, rfl, ⟨rfl, ⟨l, rfl, hk⟩, by rw [e1]; exact h5⟩, h6, h7, h8, h9, fun a ha => ?_⟩
        rcases List.mem_cons.1 ha with rfl | ha
        · exact hc
        · exact h10 a ha
/-- Which page is sought. -/
def fnd (S : Sf) (key : By) (ps : List Nat) : Nat := (ps.find? fun p => cov (S p) key).getD 0
theorem fnd_eq {key : By} {A B : List Nat} {c : Nat} (h1 : ∀ a, a ∈ A → cov (S a) key = false) (h2 : cov (S c) key = true) : fnd S key (A ++ c :: B) = c := by
  unfold fnd
  rw [List.find?_append, List.find?_eq_none.2 (fun a ha => by rw [h1 a ha]; decide), List.find?_cons_of_pos (by exact h2)]
  rfl
theorem Lvl.find {ps : List Nat} (h : Lvl S t L ps) (key : By) (hk : le low key = true) : ∃ A l B, Pos S t L ps A l (fnd S key ps) B ∧ le l key = true ∧ cov (S (fnd S key ps)) key = true ∧ ∀ a, a ∈ A → cov (S a) key = false := by
  obtain ⟨p0, h⟩ := h
  obtain ⟨A, l, c, B, rfl, h1, h2, h3, h4, h5, h6⟩ := seg_find key h hk
  rw [fnd_eq h6 h3]
  exact ⟨A, l, B, ⟨rfl, ⟨p0, h1⟩, h4, h5⟩, h2, h3, h6⟩
/-- One who is ahead of the node that is sought, and doesn't come too late. -/
theorem pos_ahead {ps A A' B B' : List Nat} {l l' key : By} {c c' : Nat} (h : Pos S t L ps A l c B) (h' : Pos S t L ps A' l' c' B') (hl : le l key = true) (hc : ∀ a, a ∈ A' → cov (S a) key = false) (hk : cov (S c') key = true) (hl' : le l' key = true) :
    ∃ M, A' = A ++ M ∧ c :: B = M ++ c' :: B' := by
  have e : A ++ c :: B = A' ++ c' :: B' := h.eq.symm.trans h'.eq
  rcases List.append_eq_append_iff.1 e with ⟨M, e1, e2⟩ | ⟨M, e1, e2⟩
  · exact ⟨M, e1, e2⟩
  · cases M with
    | nil => exact ⟨[], by simpa using e1.symm, by simpa using e2.symm⟩
    | cons d M =>
      -- A = A' ++ d :: M, c' = d : its High is at or below l, so it doesn't cover key
      exfalso
      rw [List.cons_append] at e2
      cases e2
      obtain ⟨p0, hp⟩ := h.pre
      rw [e1] at hp
      obtain ⟨m, r, h1, h2⟩ := seg_app.1 hp
      obtain ⟨rfl, ⟨l2, rfl, h3⟩, h4⟩ := h2
      unfold hiN at h4
      cases hh : (S r).has with
      | false =>
        rw [hh, if_neg (by decide)] at h4
        cases M with
        | nil => cases h4.1
        | cons b M => obtain ⟨_, ⟨l, e, _⟩, _⟩ := h4; cases e
      | true =>
        rw [hh, if_pos rfl] at h4
        have := le_trans (seg_le h4) hl
        unfold cov at hk
        rw [hh, Bool.not_true, Bool.false_or] at hk
        rw [not_lt.2 this] at hk
        cases hk
theorem right_ok {l : By} {n : Nod} (h : Ok t L l n) : 0 ≤ n.right ∧ n.right < 256 := by
  have := goods (fits_good h.ft).1
  exact ⟨this.r1, by have := this.r2; omega⟩
theorem at_page (p : Int) (h0 : 0 ≤ p) (h1 : p < 256) : at_ S p = some (S p.toNat) := by
  unfold at_
  rw [if_pos ⟨h0, h1⟩]
/-- The way to the right ends at the node that is sought. -/
theorem rgt_to (key : By) : ∀ (M : List Nat) {c c' : Nat} {B B' : List Nat} {l : By} (left : Nat), Ok t L l (S c) → Seg S t L (hiN (S c)) (S c).right.toNat B none 0 → c :: B = M ++ c' :: B' → (∀ a, a ∈ M → cov (S a) key = false) → cov (S c') key = true → M.length ≤ left →
    rgt S key left c (S c) = ⟨left - M.length, 0, c', S c'⟩
  | [], c, c', B, B', l, left, hk, hs, e, hc, hk', hl => by
    rw [List.nil_append] at e
    cases e
    have h0 : onB key (S c) = false := by unfold onB; rw [hk']; rfl
    cases left with
    | zero => rw [rgt_zero, h0]; rfl
    | succ left => rw [rgt_succ, h0]; rfl
  | a :: M, c, c', B, B', l, left, hk, hs, e, hc, hk', hl => by
    rw [List.cons_append] at e
    obtain ⟨e1, e2⟩ := List.cons.inj e
    subst e1 e2
    have hca := hc c (List.mem_cons_self ..)
    have hh : (S c).has = true := by
      cases hh : (S c).has with
      | true => rfl
      | false => unfold cov at hca; rw [hh] at hca; cases hca
    have hon : onB key (S c) = true := by
      unfold onB
      rw [hca, decide_eq_true (hk.rt hh)]
      rfl
    have hr := right_ok hk
    obtain ⟨left, rfl⟩ : ∃ k, left = k + 1 := ⟨left - 1, by simp only [List.length_cons] at hl; omega⟩
    rw [rgt_succ, hon, if_pos rfl, at_page _ hr.1 hr.2]
    dsimp only
    generalize hq : (S c).right.toNat = q at *
    have hrq : (S c).right = q := by omega
    rw [hrq]
    cases hM : M ++ c' :: B' with
    | nil => exact absurd hM (by simp)
    | cons d D =>
      rw [hM] at hs
      obtain ⟨rfl, ⟨l2, e2, h3⟩, h4⟩ := hs
      rw [rgt_to key M left h3 h4 hM.symm (fun a ha => hc a (List.mem_cons_of_mem _ ha)) hk' (by simp only [List.length_cons] at hl; omega)]
      simp only [List.length_cons]
      rw [Nat.add_sub_add_right]
end
/-! The way down. -/
theorem lastLe_or (l : List Ent) (key : By) : ∀ k, k ≤ l.length → (lastLe l key k = -1 ∧ ∀ j e, j < k → l[j]? = some e → le e.key key = false) ∨
    ∃ (i : Nat) (e : Ent), lastLe l key k = i ∧ i < k ∧ l[i]? = some e ∧ le e.key key = true ∧ ∀ j e', i < j → j < k → l[j]? = some e' → le e'.key key = false
  | 0, _ => Or.inl ⟨rfl, fun _ _ h => by omega⟩
  | k + 1, hk => by
    have he : l[k]? = some (l[k]'(by omega)) := List.getElem?_eq_getElem (by omega)
    generalize l[k]'(by omega) = e at he
    cases hl : le e.key key with
    | true =>
      rw [lastLe_hit l key k e he hl]
      exact Or.inr ⟨k, e, rfl, by omega, he, hl, fun j e' h1 h2 => by omega⟩
    | false =>
      rw [lastLe_miss l key k e he hl]
      rcases lastLe_or l key k (by omega) with ⟨h1, h2⟩ | ⟨i, e1, h1, h2, h3, h4, h5⟩
      · refine Or.inl ⟨h1, fun j e' hj he' => ?_⟩
        by_cases hjk : j = k
        · subst hjk; rw [he] at he'; cases he'; exact hl
        · exact h2 j e' (by omega) he'
      · refine Or.inr ⟨i, e1, h1, by omega, h3, h4, fun j e' hi hj he' => ?_⟩
        by_cases hjk : j = k
        · subst hjk; rw [he] at he'; cases he'; exact hl
        · exact h5 j e' hi (by omega) he'
theorem leads_two (v : By) (h : v.length = 2) : numZ 2 (childL v) = v := by
  match v, h with
  | [a, b], _ =>
    have e : childL [a, b] = unnum [a, b] := rfl
    rw [e]
    have ha := UInt8.toNat_lt a
    have hb := UInt8.toNat_lt b
    simp only [numZ, unnum, List.cons.injEq, and_true]
    constructor
    · apply UInt8.toNat_inj.1
      simp
      omega
    · apply UInt8.toNat_inj.1
      simp
      omega
theorem child_lead (p : Nat) (h : p < 65536) : childL (numZ 2 p) = p := by
  unfold childL
  simp only [numZ, unnum, List.length_cons, List.length_nil]
  simp
  omega
def pags (ch : Nat → List Nat) : Nat → List Nat
  | 0 => ch 0
  | L + 1 => pags ch L ++ ch (L + 1)
def belw (ch : Nat → List Nat) : Nat → Nat
  | 0 => 0
  | L + 1 => belw ch L + (ch L).length
theorem pags_len (ch : Nat → List Nat) : ∀ L, (pags ch L).length = belw ch (L + 1)
  | 0 => by unfold pags belw belw; omega
  | L + 1 => by rw [pags, List.length_append, pags_len ch L]; rfl
theorem mem_pags {ch : Nat → List Nat} {p : Nat} : ∀ {top : Nat}, p ∈ pags ch top ↔ ∃ L, L ≤ top ∧ p ∈ ch L
  | 0 => by
    constructor
    · intro h; exact ⟨0, Nat.le_refl _, h⟩
    · rintro ⟨L, h, hp⟩
      obtain rfl : L = 0 := by omega
      exact hp
  | top + 1 => by
    rw [pags, List.mem_append, mem_pags]
    constructor
    · rintro (⟨L, h, hp⟩ | hp)
      · exact ⟨L, by omega, hp⟩
      · exact ⟨_, Nat.le_refl _, hp⟩
    · rintro ⟨L, h, hp⟩
      by_cases hL : L = top + 1
      · subst hL; exact Or.inr hp
      · exact Or.inl ⟨L, by omega, hp⟩
theorem nodup_len : ∀ (n : Nat) (l : List Nat), l.Nodup → (∀ x, x ∈ l → x < n) → l.length ≤ n
  | 0, l, _, h => by cases l with
    | nil => exact Nat.le_refl _
    | cons a l => exact absurd (h a (List.mem_cons_self ..)) (by omega)
  | n + 1, l, hd, h => by
    by_cases hn : n ∈ l
    · have h1 := nodup_len n (l.erase n) (hd.erase n) (fun x hx => by
        have h2 := (hd.mem_erase_iff).1 hx
        have h3 := h x h2.2
        have : x ≠ n := h2.1
        omega)
      rw [List.length_erase_of_mem hn] at h1
      omega
    · have := nodup_len n l hd (fun x hx => by
        have h3 := h x hx
        have : x ≠ n := fun e => hn (e ▸ hx)
        omega)
      omega
structure Tree (S : Sf) (r : Nat) (t : Int) (top : Nat) (ch : Nat → List Nat) : Prop where
  lvl : ∀ L, L ≤ top → Lvl S t L (ch L)
  root : ch top = [r]
  lead : ∀ L, L < top → ∀ c, c ∈ ch (L + 1) → ∀ e, e ∈ (S c).list → ∃ A d B, Pos S t L (ch L) A e.key d B ∧ childL e.val = d
  nod : ∀ L, L ≤ top → (ch L).Nodup
  dis : ∀ L K p, L ≤ top → K ≤ top → p ∈ ch L → p ∈ ch K → L = K
  bnd : ∀ L p, L ≤ top → p ∈ ch L → p < 256
def way (S : Sf) (ch : Nat → List Nat) (key : By) : Nat → Nat → List (Int × Nod)
  | L, 0 => [((fnd S key (ch L) : Int), S (fnd S key (ch L)))]
  | L, n + 1 => ((fnd S key (ch L) : Int), S (fnd S key (ch L))) :: way S ch key (L - 1) n
section
variable {S : Sf} {r : Nat} {t : Int} {top : Nat} {ch : Nat → List Nat}
theorem Tree.dist (T : Tree S r t top ch) : ∀ L, L ≤ top → (pags ch L).Nodup
  | 0, h => T.nod 0 h
  | L + 1, h => by
    rw [pags, List.nodup_append]
    refine ⟨T.dist L (by omega), T.nod _ h, fun a ha b hb e => ?_⟩
    subst e
    obtain ⟨K, hK, hK2⟩ := mem_pags.1 ha
    have := T.dis _ _ _ (by omega) h hK2 hb
    omega
theorem Tree.fits (T : Tree S r t top ch) : belw ch (top + 1) ≤ 256 := by
  rw [← pags_len]
  refine nodup_len 256 _ (T.dist _ (Nat.le_refl _)) fun x hx => ?_
  obtain ⟨K, hK, hK2⟩ := mem_pags.1 hx
  exact T.bnd K x hK hK2
/-- The entry of a node above the leaves, that leads to where a key is. -/
theorem Tree.down (T : Tree S r t top ch) {L : Nat} (hL : L < top) {A B : List Nat} {l key : By} {c : Nat} (h : Pos S t (L + 1) (ch (L + 1)) A l c B) (hl : le l key = true) :
    ∃ (i : Nat) (e : Ent) (A' : List Nat) (d : Nat) (B' : List Nat), lastLe (S c).list key (S c).list.length = i ∧ (S c).list[i]? = some e ∧ le e.key key = true ∧ Pos S t L (ch L) A' e.key d B' ∧ childL e.val = d ∧ e.val.length = 2 := by
  obtain ⟨e0, rest, e1, e2⟩ := h.ok.fst (by omega)
  rcases lastLe_or (S c).list key _ (Nat.le_refl _) with ⟨-, h2⟩ | ⟨i, e, h1, h2, h3, h4, -⟩
  · have := h2 0 e0 (by rw [e1]; simp) (by rw [e1]; rfl)
    rw [e2, hl] at this
    cases this
  · have hm : e ∈ (S c).list := List.mem_of_getElem? h3
    have hc : c ∈ ch (L + 1) := by rw [h.eq]; simp
    obtain ⟨A', d, B', h5, h6⟩ := T.lead L hL c hc e hm
    refine ⟨i, e, A', d, B', h1, h3, h4, h5, h6, ?_⟩
    have hg := (fits_good h.ok.ft).1
    have hg2 : gList (S c) = true := by
      unfold Nd.goodB at hg
      simp only [Bool.and_eq_true] at hg
      exact hg.2
    unfold gList at hg2
    simp only [Bool.and_eq_true] at hg2
    have h7 := gTo_at (S c) _ i hg2.2 (List.getElem?_eq_some_iff.1 h3).1 e h3
    unfold gAt gEnt at h7
    rw [if_pos (by rw [h.ok.lv]; omega)] at h7
    simp only [Bool.and_eq_true, decide_eq_true_eq] at h7
    exact h7.2.2.2.1
theorem blw_to {L left : Nat} {n : Nod} {i : Nat} {e : Ent} {d : Nat} (hn : n.level = ((L + 1 : Nat) : Int)) (h3 : n.list[i]? = some e) (h6 : childL e.val = d) (h7 : e.val.length = 2) (hd : d < 256) (hlv : (S d).level = L) (hl : 1 ≤ left) : blw S left n i = ⟨left - 1, 0, d, S d⟩ := by
  unfold blw
  rw [if_neg (by omega), Int.toNat_natCast, h3]
  dsimp only
  have h8 : leadsB e = true := by unfold leadsB; rw [leads_two _ h7, decide_eq_true rfl]
  obtain ⟨left, rfl⟩ : ∃ k, left = k + 1 := ⟨left - 1, by omega⟩
  rw [h8, if_pos rfl, h6, vis_succ, at_page _ (by omega) (by omega)]
  dsimp only
  rw [if_pos rfl, if_pos (by rw [Int.toNat_natCast, hlv, hn]; omega), Int.toNat_natCast]
  rfl
theorem Tree.sk (T : Tree S r t top ch) (key : By) (hk : le low key = true) (lv : Nat) : ∀ (n : Nat) (A : List Nat) (l : By) (c : Nat) (B : List Nat) (left f : Nat) (path : List (Int × Nod)), lv + n ≤ top → Pos S t (lv + n) (ch (lv + n)) A l c B → le l key = true →
    B.length + belw ch (lv + n) ≤ left → n < f → ∃ left', Bk.sk S lv key f ⟨left, 0, c, S c⟩ path = (left', 0, path ++ way S ch key (lv + n) n)
  | 0, A, l, c, B, left, f, path, h1, h2, h3, h4, h5 => by
    obtain ⟨A', l', B', g1, g2, g3, g4⟩ := (T.lvl _ h1).find key hk
    obtain ⟨M, e1, e2⟩ := pos_ahead h2 g1 h3 g4 g3 g2
    have hM : M.length ≤ B.length := by have := congrArg List.length e2; simp only [List.length_cons, List.length_append] at this; omega
    obtain ⟨f, rfl⟩ : ∃ k, f = k + 1 := ⟨f - 1, by omega⟩
    have hr := rgt_to key M left h2.ok h2.post e2 (fun a ha => g4 a (by rw [e1]; simp [ha])) g3 (by omega)
    exact ⟨left - M.length, sk_at S lv key f _ ⟨left - M.length, 0, (fnd S key (ch (lv + 0)) : Int), S (fnd S key (ch (lv + 0)))⟩ path rfl hr.symm rfl g1.ok.lv⟩
  | n + 1, A, l, c, B, left, f, path, h1, h2, h3, h4, h5 => by
    obtain ⟨A', l', B', g1, g2, g3, g4⟩ := (T.lvl _ h1).find key hk
    obtain ⟨M, e1, e2⟩ := pos_ahead h2 g1 h3 g4 g3 g2
    have hM : M.length ≤ B.length := by have := congrArg List.length e2; simp only [List.length_cons, List.length_append] at this; omega
    obtain ⟨f, rfl⟩ : ∃ k, f = k + 1 := ⟨f - 1, by omega⟩
    have hr := rgt_to key M left h2.ok h2.post e2 (fun a ha => g4 a (by rw [e1]; simp [ha])) g3 (by omega)
    obtain ⟨i, e, A2, d, B2, k1, k2, k3, k4, k5, k6⟩ := T.down (L := lv + n) (by omega) g1 g2
    have hlen : (ch (lv + n)).length = A2.length + (B2.length + 1) := by rw [k4.eq]; simp
    have hb : belw ch (lv + (n + 1)) = belw ch (lv + n) + (ch (lv + n)).length := rfl
    have hd : d < 256 := T.bnd (lv + n) d (by omega) (by rw [k4.eq]; simp)
    have hbl := blw_to (S := S) (left := left - M.length) g1.ok.lv k2 k5 k6 hd k4.ok.lv (by omega)
    obtain ⟨left', hs⟩ := T.sk key hk lv n A2 e.key d B2 (left - M.length - 1) f (path ++ [((fnd S key (ch (lv + (n + 1))) : Int), S (fnd S key (ch (lv + (n + 1)))))]) (by omega) k4 k3 (by omega) (by omega)
    refine ⟨left', ?_⟩
    rw [sk_go S lv key f _ _ path rfl hr.symm rfl (by rw [g1.ok.lv]; omega)]
    dsimp only
    rw [k1, hbl, hs, List.append_assoc]
    rfl
theorem Tree.pos (T : Tree S r t top ch) : Pos S t top (ch top) [] low r [] := by
  have h := T.lvl top (Nat.le_refl _)
  have e := T.root
  rw [e] at h ⊢
  obtain ⟨p0, h⟩ := h
  obtain ⟨rfl, ⟨l, h1, h2⟩, h3⟩ := h
  cases h1
  exact ⟨rfl, ⟨p0, rfl, rfl⟩, h2, h3⟩
theorem Tree.seek (T : Tree S r t top ch) (key : By) (hk : le low key = true) (lv : Nat) (hlv : lv ≤ top) (ht : top < 299) : ∃ left', Bk.seek S 256 r lv key = (left', 0, way S ch key top (top - lv)) := by
  have h1 := T.pos
  have hr : r < 256 := T.bnd top r (Nat.le_refl _) (by rw [T.root]; simp)
  have hf := T.fits
  rw [belw, T.root, List.length_singleton] at hf
  have e : lv + (top - lv) = top := by omega
  obtain ⟨left', hs⟩ := T.sk key hk lv (top - lv) [] low r [] 255 300 [] (by omega) (by rw [e]; exact h1) hk (by rw [e]; simp; omega) (by omega)
  refine ⟨left', ?_⟩
  unfold Bk.seek
  rw [vis_succ, at_page _ (by omega) (by omega)]
  dsimp only
  rw [Int.toNat_natCast, hs, e]
  rfl
end
/-! How trees change. -/
section
variable {S S' : Sf} {t : Int} {L : Nat}
/-- Where the keys end, behind some nodes, and which page is the next one. -/
def endHi (S : Sf) : Option By → List Nat → Option By
  | lo, [] => lo
  | _, a :: A => endHi S (hiN (S a)) A
theorem endHi_app (S : Sf) : ∀ (A B : List Nat) (lo : Option By), endHi S lo (A ++ B) = endHi S (endHi S lo A) B
  | [], _, _ => rfl
  | a :: A, B, lo => endHi_app S A B _
theorem endHi_congr : ∀ {A : List Nat} {lo : Option By}, (∀ a, a ∈ A → hiN (S' a) = hiN (S a)) → endHi S' lo A = endHi S lo A
  | [], _, _ => rfl
  | a :: A, lo, h => by
    show endHi S' (hiN (S' a)) A = endHi S (hiN (S a)) A
    rw [h a (List.mem_cons_self ..)]
    exact endHi_congr fun b hb => h b (List.mem_cons_of_mem _ hb)
theorem seg_end : ∀ {A : List Nat} {lo hi : Option By} {p q : Nat}, Seg S t L lo p A hi q → hi = endHi S lo A
  | [], _, _, _, _, h => h.1.symm
  | _ :: A, _, _, _, _, h => seg_end (A := A) h.2.2
theorem Pos.low_eq {ps A B : List Nat} {l : By} {c : Nat} (h : Pos S t L ps A l c B) : some l = endHi S (some low) A := by
  obtain ⟨p0, h1⟩ := h.pre
  exact seg_end h1
theorem Lvl.at_ {A B : List Nat} {l : By} {c : Nat} (h : Lvl S t L (A ++ c :: B)) (hl : some l = endHi S (some low) A) : Pos S t L (A ++ c :: B) A l c B := by
  obtain ⟨l', h'⟩ := h.pos
  have := hl.trans h'.low_eq.symm
  cases this
  exact h'
theorem Pos.congr {ps A B : List Nat} {l : By} {c : Nat} (hc : ∀ a, a ∈ ps → S' a = S a) (h : Pos S t L ps A l c B) : Pos S' t L ps A l c B := by
  obtain ⟨rfl, ⟨p0, h1⟩, h2, h3⟩ := h
  have e := hc c (by simp)
  exact ⟨rfl, ⟨p0, seg_congr (fun a ha => hc a (by simp [ha])) h1⟩, by rw [e]; exact h2, by rw [e]; exact seg_congr (fun a ha => hc a (by simp [ha])) h3⟩
theorem Lvl.congr {ps : List Nat} (hc : ∀ a, a ∈ ps → S' a = S a) (h : Lvl S t L ps) : Lvl S' t L ps := by
  obtain ⟨p0, h⟩ := h
  exact ⟨p0, seg_congr hc h⟩
theorem Pos.mem {ps A B : List Nat} {l : By} {c : Nat} (h : Pos S t L ps A l c B) : c ∈ ps := by rw [h.eq]; simp
/-- A page stands at one place. -/
theorem split_uniq {A A' B B' : List Nat} {c : Nat} (hd : (A ++ c :: B).Nodup) (e : A ++ c :: B = A' ++ c :: B') : A = A' ∧ B = B' := by
  have hA : c ∉ A := fun h => by
    rw [List.nodup_append] at hd
    exact hd.2.2 c h c (by simp) rfl
  have hA' : c ∉ A' := fun h => by
    rw [e, List.nodup_append] at hd
    exact hd.2.2 c h c (by simp) rfl
  rcases List.append_eq_append_iff.1 e with ⟨M, e1, e2⟩ | ⟨M, e1, e2⟩
  · cases M with
    | nil => exact ⟨by simpa using e1.symm, by simpa using e2⟩
    | cons d M =>
      rw [List.cons_append] at e2
      obtain ⟨rfl, -⟩ := List.cons.inj e2
      exact absurd (by rw [e1]; simp) hA'
  · cases M with
    | nil => exact ⟨by simpa using e1, by simpa using e2.symm⟩
    | cons d M =>
      rw [List.cons_append] at e2
      obtain ⟨rfl, -⟩ := List.cons.inj e2
      exact absurd (by rw [e1]; simp) hA
theorem Pos.uniq {ps A A' B B' : List Nat} {l l' : By} {c : Nat} (hd : ps.Nodup) (h : Pos S t L ps A l c B) (h' : Pos S t L ps A' l' c B') : A = A' ∧ l = l' ∧ B = B' := by
  have e := h.eq.symm.trans h'.eq
  obtain ⟨rfl, rfl⟩ := split_uniq (h.eq ▸ hd) e
  have := h.low_eq.trans h'.low_eq.symm
  cases this
  exact ⟨rfl, rfl, rfl⟩
end
section
variable {S S' : Sf} {r : Nat} {t : Int} {top L : Nat} {ch : Nat → List Nat}
/-- One level of a tree becomes another one. -/
theorem Tree.level (T : Tree S r t top ch) (hL : L ≤ top) {ps' : List Nat} (hS : ∀ p, p ∉ ch L → p ∉ ps' → S' p = S p) (hl : Lvl S' t L ps') (hr : L = top → ps' = [r])
    (hk : L < top → ∀ c, c ∈ ch (L + 1) → ∀ e, e ∈ (S c).list → ∀ A d B, Pos S t L (ch L) A e.key d B → ∃ A' B', Pos S' t L ps' A' e.key d B')
    (he : ∀ K, L = K + 1 → ∀ c, c ∈ ps' → ∀ e, e ∈ (S' c).list → ∃ A d B, Pos S t K (ch K) A e.key d B ∧ childL e.val = d)
    (hn : ps'.Nodup) (hf : ∀ p, p ∈ ps' → p ∈ ch L ∨ (p < 256 ∧ ∀ K, K ≤ top → p ∉ ch K)) : Tree S' r t top (up ch L ps') := by
  have same : ∀ K, K ≤ top → K ≠ L → ∀ p, p ∈ ch K → S' p = S p := fun K hK hne p hp => hS p (fun h => hne (T.dis _ _ _ hK hL hp h)) (fun h => by
    rcases hf p h with h | h
    · exact hne (T.dis _ _ _ hK hL hp h)
    · exact h.2 K hK hp)
  have far : ∀ K, K ≤ top → K ≠ L → ∀ p, p ∈ ps' → p ∉ ch K := fun K hK hne p hp h => by
    rcases hf p hp with h' | h'
    · exact hne (T.dis _ _ _ hK hL h h')
    · exact h'.2 K hK h
  refine ⟨fun K hK => ?_, ?_, fun K hK c hc e hm => ?_, fun K hK => ?_, fun K M p hK hM h1 h2 => ?_, fun K p hK hp => ?_⟩
  · by_cases hKL : K = L
    · subst hKL; rw [up_same]; exact hl
    · rw [up_other _ _ _ _ hKL]; exact (T.lvl K hK).congr (same K hK hKL)
  · by_cases hKL : top = L
    · rw [hKL, up_same]; exact hr hKL.symm
    · rw [up_other _ _ _ _ hKL]; exact T.root
  · by_cases h1 : K + 1 = L
    · subst h1
      rw [up_same] at hc
      obtain ⟨A, d, B, h2, h3⟩ := he K rfl c hc e hm
      rw [up_other _ _ _ _ (by omega)]
      exact ⟨A, d, B, h2.congr (same K (by omega) (by omega)), h3⟩
    · rw [up_other _ _ _ _ h1] at hc
      rw [same (K + 1) (by omega) h1 c hc] at hm
      obtain ⟨A, d, B, h2, h3⟩ := T.lead K hK c hc e hm
      by_cases h4 : K = L
      · subst h4
        rw [up_same]
        obtain ⟨A', B', h5⟩ := hk hK c hc e hm A d B h2
        exact ⟨A', d, B', h5, h3⟩
      · rw [up_other _ _ _ _ h4]
        exact ⟨A, d, B, h2.congr (same K (by omega) h4), h3⟩
  · by_cases hKL : K = L
    · subst hKL; rw [up_same]; exact hn
    · rw [up_other _ _ _ _ hKL]; exact T.nod K hK
  · by_cases a : K = L
    · subst a
      rw [up_same] at h1
      by_cases b : M = K
      · exact b.symm
      · rw [up_other _ _ _ _ b] at h2
        exact absurd h2 (far M hM b p h1)
    · rw [up_other _ _ _ _ a] at h1
      by_cases b : M = L
      · subst b
        rw [up_same] at h2
        exact absurd h1 (far K hK a p h2)
      · rw [up_other _ _ _ _ b] at h2
        exact T.dis _ _ _ hK hM h1 h2
  · by_cases hKL : K = L
    · subst hKL
      rw [up_same] at hp
      rcases hf p hp with h | h
      · exact T.bnd K p hK h
      · exact h.1
    · rw [up_other _ _ _ _ hKL] at hp
      exact T.bnd K p hK hp
theorem up_self {α : Type} (f : Nat → α) (p : Nat) : up f p (f p) = f := by
  funext q
  by_cases h : q = p
  · subst h; rw [up_same]
  · rw [up_other _ _ _ _ h]
theorem nodup_mid {A B : List Nat} {c : Nat} (h : (A ++ c :: B).Nodup) : c ∉ A ∧ c ∉ B := by
  rw [List.nodup_append] at h
  exact ⟨fun hc => h.2.2 c hc c (by simp) rfl, (List.nodup_cons.1 h.2.1).1⟩
/-- A node has another list. -/
theorem Tree.put (T : Tree S r t top ch) (hL : L ≤ top) {A B : List Nat} {l : By} {c : Nat} (h : Pos S t L (ch L) A l c B) {n : Nod} (ok : Ok t L l n) (hh : hiN n = hiN (S c)) (hr : n.right = (S c).right)
    (he : ∀ K, L = K + 1 → ∀ e, e ∈ n.list → ∃ A d B, Pos S t K (ch K) A e.key d B ∧ childL e.val = d) : Tree (up S c n) r t top ch := by
  have hd := T.nod L hL
  rw [h.eq] at hd
  obtain ⟨hA, hB⟩ := nodup_mid hd
  have hl : Lvl (up S c n) t L (ch L) := by
    refine Pos.lvl (A := A) (l := l) (c := c) (B := B) ⟨h.eq, ?_, by rw [up_same]; exact ok, ?_⟩
    · obtain ⟨p0, h1⟩ := h.pre
      exact ⟨p0, seg_congr (fun a ha => up_other _ _ _ _ (fun e => hA (e ▸ ha))) h1⟩
    · rw [up_same, hh, hr]
      exact seg_congr (fun a ha => up_other _ _ _ _ (fun e => hB (e ▸ ha))) h.post
  have hhi : ∀ a, hiN (up S c n a) = hiN (S a) := fun a => by
    by_cases e : a = c
    · subst e; rw [up_same]; exact hh
    · rw [up_other _ _ _ _ e]
  have := T.level (S' := up S c n) hL (ps' := ch L) (fun p h1 _ => up_other _ _ _ _ (fun e => h1 (e ▸ h.mem))) hl (fun e => by rw [e]; exact T.root)
    (fun _ b _ e _ A' d B' h' => by
      refine ⟨A', B', ?_⟩
      have hl' := hl
      rw [h'.eq] at hl' ⊢
      exact hl'.at_ (h'.low_eq.trans (endHi_congr fun a _ => hhi a).symm))
    (fun K hK b hb e hm => by
      by_cases hbc : b = c
      · subst hbc; rw [up_same] at hm; exact he K hK e hm
      · rw [up_other _ _ _ _ hbc] at hm
        subst hK
        exact T.lead K (by omega) b hb e hm)
    (T.nod L hL) (fun p hp => Or.inl hp)
  rw [up_self] at this
  exact this
/-- A node that isn't the root is parted. -/
theorem Tree.part (T : Tree S r t top ch) (hL : L < top) {A B : List Nat} {l : By} {c : Nat} (h : Pos S t L (ch L) A l c B) {f : Nat} (hf : f < 256) (hfr : ∀ K, K ≤ top → f ∉ ch K) {n1 n2 : Nod} {k : By}
    (ok1 : Ok t L l n1) (h1 : hiN n1 = some k) (h2 : n1.right = f) (ok2 : Ok t L k n2) (h3 : hiN n2 = hiN (S c)) (h4 : n2.right = (S c).right)
    (he : ∀ K, L = K + 1 → ∀ e, e ∈ n1.list ∨ e ∈ n2.list → ∃ A d B, Pos S t K (ch K) A e.key d B ∧ childL e.val = d) :
    Tree (up (up S c n1) f n2) r t top (up ch L (A ++ c :: f :: B)) ∧ Pos (up (up S c n1) f n2) t L (A ++ c :: f :: B) (A ++ [c]) k f B := by
  have hd := T.nod L (by omega)
  rw [h.eq] at hd
  obtain ⟨hA, hB⟩ := nodup_mid hd
  have hfL := hfr L (by omega)
  rw [h.eq] at hfL
  have hfA : f ∉ A := fun e => hfL (by simp [e])
  have hfB : f ∉ B := fun e => hfL (by simp [e])
  have hfc : f ≠ c := fun e => hfL (by simp [e])
  have ec : up (up S c n1) f n2 c = n1 := by rw [up_other _ _ _ _ (fun e => hfc e.symm), up_same]
  have ef : up (up S c n1) f n2 f = n2 := up_same ..
  have eo : ∀ a, a ≠ c → a ≠ f → up (up S c n1) f n2 a = S a := fun a h1 h2 => by rw [up_other _ _ _ _ h2, up_other _ _ _ _ h1]
  generalize hS' : up (up S c n1) f n2 = S' at *
  have hp : Pos S' t L (A ++ c :: f :: B) A l c (f :: B) := by
    refine ⟨rfl, ?_, by rw [ec]; exact ok1, ?_⟩
    · obtain ⟨p0, h1⟩ := h.pre
      exact ⟨p0, seg_congr (fun a ha => eo a (fun e => hA (e ▸ ha)) (fun e => hfA (e ▸ ha))) h1⟩
    · rw [ec, h1, h2]
      refine ⟨by omega, ⟨k, rfl, by rw [ef]; exact ok2⟩, ?_⟩
      rw [ef, h3, h4]
      exact seg_congr (fun a ha => eo a (fun e => hB (e ▸ ha)) (fun e => hfB (e ▸ ha))) h.post
  have hl := hp.lvl
  refine ⟨T.level (S' := S') (L := L) (by omega) (ps' := A ++ c :: f :: B) (fun p g1 g2 => ?_) hl (fun e => by omega) (fun _ b _ e _ A' d B' h' => ?_) (fun K hK b hb e hm => ?_) ?_ (fun p hp => ?_), ?_⟩
  · exact eo p (fun e => g2 (by simp [e])) (fun e => g2 (by simp [e]))
  · -- who was led to is where it was
    have e := h.eq.symm.trans h'.eq
    rcases List.append_eq_append_iff.1 e with ⟨M, e1, e2⟩ | ⟨M, e1, e2⟩
    · cases M with
      | nil =>
        rw [List.append_nil] at e1
        obtain ⟨rfl, rfl⟩ := List.cons.inj e2
        subst e1
        have := h.low_eq.trans h'.low_eq.symm
        cases this
        exact ⟨_, _, hp⟩
      | cons x M =>
        rw [List.cons_append] at e2
        obtain ⟨rfl, rfl⟩ := List.cons.inj e2
        subst e1
        refine ⟨A ++ c :: f :: M, B', ?_⟩
        have hl' := hl
        rw [show A ++ c :: f :: (M ++ d :: B') = (A ++ c :: f :: M) ++ d :: B' by simp] at hl' ⊢
        refine hl'.at_ ?_
        rw [h'.low_eq, endHi_app, endHi_app]
        show endHi S (hiN (S c)) M = endHi S' (hiN (S' f)) M
        rw [ef, h3]
        exact (endHi_congr fun a ha => by rw [eo a (fun e => hB (e ▸ (by simp [ha]))) (fun e => hfB (e ▸ (by simp [ha])))]).symm
    · cases M with
      | nil =>
        rw [List.append_nil] at e1
        obtain ⟨rfl, rfl⟩ := List.cons.inj e2
        subst e1
        have := h.low_eq.trans h'.low_eq.symm
        cases this
        exact ⟨_, _, hp⟩
      | cons x M =>
        rw [List.cons_append] at e2
        obtain ⟨rfl, rfl⟩ := List.cons.inj e2
        subst e1
        refine ⟨A', M ++ c :: f :: B, ?_⟩
        have hl' := hl
        rw [show (A' ++ d :: M) ++ c :: f :: B = A' ++ d :: (M ++ c :: f :: B) by simp] at hl' ⊢
        refine hl'.at_ ?_
        rw [h'.low_eq]
        exact (endHi_congr fun a ha => by rw [eo a (fun e => hA (e ▸ (by simp [ha]))) (fun e => hfA (e ▸ (by simp [ha])))]).symm
  · by_cases hbc : b = c
    · subst hbc; rw [ec] at hm; exact he K hK e (Or.inl hm)
    · by_cases hbf : b = f
      · subst hbf; rw [ef] at hm; exact he K hK e (Or.inr hm)
      · rw [eo b hbc hbf] at hm
        subst hK
        exact T.lead K (by omega) b (by rw [h.eq]; simp at hb ⊢; rcases hb with hb | hb | hb | hb; exact Or.inl hb; exact absurd hb hbc; exact absurd hb hbf; exact Or.inr (Or.inr hb)) e hm
  · rw [List.nodup_append] at hd ⊢
    obtain ⟨d1, d2, d3⟩ := hd
    rw [List.nodup_cons] at d2
    refine ⟨d1, ?_, ?_⟩
    · rw [List.nodup_cons, List.nodup_cons]
      refine ⟨fun hc => ?_, hfB, d2.2⟩
      rcases List.mem_cons.1 hc with hc | hc
      · exact hfc hc.symm
      · exact d2.1 hc
    · intro a ha b hb
      rcases List.mem_cons.1 hb with rfl | hb
      · exact d3 a ha b (by simp)
      · rcases List.mem_cons.1 hb with rfl | hb
        · exact fun e => hfA (e ▸ ha)
        · exact d3 a ha b (by simp [hb])
  · by_cases hpf : p = f
    · subst hpf; exact Or.inr ⟨hf, hfr⟩
    · refine Or.inl ?_
      rw [h.eq]
      simp at hp ⊢
      rcases hp with hp | hp | hp | hp
      · exact Or.inl hp
      · exact Or.inr (Or.inl hp)
      · exact absurd hp hpf
      · exact Or.inr (Or.inr hp)
  · have hl' := hl
    rw [show A ++ c :: f :: B = (A ++ [c]) ++ f :: B by simp] at hl' ⊢
    refine hl'.at_ ?_
    rw [endHi_app]
    show some k = hiN (S' c)
    rw [ec, h1]
end
section
variable {S S' : Sf} {r : Nat} {t : Int} {top L : Nat} {ch : Nat → List Nat}
/-- The root is parted: the tree is one level higher. -/
theorem Tree.grow (T : Tree S r t top ch) {f0 f1 : Nat} (hf0 : f0 < 256) (hf1 : f1 < 256) (hne : f0 ≠ f1) (h10 : f1 ≠ 0) (fr0 : ∀ K, K ≤ top → f0 ∉ ch K) (fr1 : ∀ K, K ≤ top → f1 ∉ ch K) {n n1 n2 : Nod} {k : By}
    (ok1 : Ok t top low n1) (h1 : hiN n1 = some k) (h2 : n1.right = f1) (ok2 : Ok t top k n2) (h3 : n2.has = false) (okr : Ok t (top + 1) low n) (hr : n.has = false)
    (hl : n.list = [⟨low, numZ 2 f0, false⟩, ⟨k, numZ 2 f1, false⟩]) (he : ∀ K, top = K + 1 → ∀ e, e ∈ n1.list ∨ e ∈ n2.list → ∃ A d B, Pos S t K (ch K) A e.key d B ∧ childL e.val = d) :
    Tree (up (up (up S r n) f0 n1) f1 n2) r t (top + 1) (up (up ch top [f0, f1]) (top + 1) [r]) := by
  have hrm : r ∈ ch top := by rw [T.root]; simp
  have hr0 : f0 ≠ r := fun e => fr0 top (Nat.le_refl _) (e ▸ hrm)
  have hr1 : f1 ≠ r := fun e => fr1 top (Nat.le_refl _) (e ▸ hrm)
  have er : up (up (up S r n) f0 n1) f1 n2 r = n := by rw [up_other _ _ _ _ (fun e => hr1 e.symm), up_other _ _ _ _ (fun e => hr0 e.symm), up_same]
  have e0 : up (up (up S r n) f0 n1) f1 n2 f0 = n1 := by rw [up_other _ _ _ _ hne, up_same]
  have e1 : up (up (up S r n) f0 n1) f1 n2 f1 = n2 := up_same ..
  have eo : ∀ a, a ≠ r → a ≠ f0 → a ≠ f1 → up (up (up S r n) f0 n1) f1 n2 a = S a := fun a g1 g2 g3 => by rw [up_other _ _ _ _ g3, up_other _ _ _ _ g2, up_other _ _ _ _ g1]
  generalize up (up (up S r n) f0 n1) f1 n2 = S' at *
  have same : ∀ K, K < top → ∀ p, p ∈ ch K → S' p = S p := fun K hK p hp => eo p (fun e => by have := T.dis _ _ _ (by omega) (Nat.le_refl _) hp (e ▸ hrm); omega) (fun e => fr0 K (by omega) (e ▸ hp)) (fun e => fr1 K (by omega) (e ▸ hp))
  have hiR : hiN n = none := by unfold hiN; rw [hr]; rfl
  have hi2 : hiN n2 = none := by unfold hiN; rw [h3]; rfl
  have lt' : Lvl S' t top [f0, f1] := by
    refine ⟨f0, rfl, ⟨low, rfl, by rw [e0]; exact ok1⟩, ?_⟩
    rw [e0, h1, h2]
    refine ⟨by omega, ⟨k, rfl, by rw [e1]; exact ok2⟩, ?_⟩
    rw [e1, hi2, ok2.nr h3]
    exact ⟨rfl, rfl⟩
  have p0 : Pos S' t top [f0, f1] [] low f0 [f1] := Lvl.at_ (A := []) lt' rfl
  have p1 : Pos S' t top [f0, f1] [f0] k f1 [] := Lvl.at_ (A := [f0]) lt' (by show some k = hiN (S' f0); rw [e0, h1])
  have chT : ∀ K, K < top → up (up ch top [f0, f1]) (top + 1) [r] K = ch K := fun K hK => by rw [up_other _ _ _ _ (by omega), up_other _ _ _ _ (by omega)]
  have ch0 : up (up ch top [f0, f1]) (top + 1) [r] top = [f0, f1] := by rw [up_other _ _ _ _ (by omega), up_same]
  have ch1 : up (up ch top [f0, f1]) (top + 1) [r] (top + 1) = [r] := up_same ..
  generalize up (up ch top [f0, f1]) (top + 1) [r] = ch' at *
  have mem' : ∀ K p, K ≤ top + 1 → p ∈ ch' K → (K < top ∧ p ∈ ch K) ∨ (K = top ∧ (p = f0 ∨ p = f1)) ∨ (K = top + 1 ∧ p = r) := fun K p hK hp => by
    by_cases a : K < top
    · rw [chT K a] at hp; exact Or.inl ⟨a, hp⟩
    · by_cases b : K = top
      · subst b; rw [ch0] at hp; exact Or.inr (Or.inl ⟨rfl, by simpa using hp⟩)
      · obtain rfl : K = top + 1 := by omega
        rw [ch1] at hp; exact Or.inr (Or.inr ⟨rfl, by simpa using hp⟩)
  refine ⟨fun K hK => ?_, ch1, fun K hK c hc e hm => ?_, fun K hK => ?_, fun K M p hK hM g1 g2 => ?_, fun K p hK hp => ?_⟩
  · by_cases a : K < top
    · rw [chT K a]; exact (T.lvl K (by omega)).congr (same K a)
    · by_cases b : K = top
      · subst b; rw [ch0]; exact lt'
      · obtain rfl : K = top + 1 := by omega
        rw [ch1]
        refine ⟨r, rfl, ⟨low, rfl, by rw [er]; exact okr⟩, ?_⟩
        rw [er, hiR, okr.nr hr]
        exact ⟨rfl, rfl⟩
  · rcases mem' _ _ (by omega) hc with ⟨a, b⟩ | ⟨a, b⟩ | ⟨a, b⟩
    · rw [chT K (by omega)]
      rw [same (K + 1) a c b] at hm
      obtain ⟨A, d, B, g1, g2⟩ := T.lead K (by omega) c b e hm
      exact ⟨A, d, B, g1.congr (same K (by omega)), g2⟩
    · rw [chT K (by omega)]
      have hm' : e ∈ n1.list ∨ e ∈ n2.list := by
        rcases b with rfl | rfl
        · rw [e0] at hm; exact Or.inl hm
        · rw [e1] at hm; exact Or.inr hm
      obtain ⟨A, d, B, g1, g2⟩ := he K a.symm e hm'
      exact ⟨A, d, B, g1.congr (same K (by omega)), g2⟩
    · obtain rfl : K = top := by omega
      subst b
      rw [er, hl] at hm
      rw [ch0]
      rcases List.mem_cons.1 hm with rfl | hm
      · exact ⟨_, _, _, p0, child_lead f0 (by omega)⟩
      · rcases List.mem_cons.1 hm with rfl | hm
        · exact ⟨_, _, _, p1, child_lead f1 (by omega)⟩
        · cases hm
  · by_cases a : K < top
    · rw [chT K a]; exact T.nod K (by omega)
    · by_cases b : K = top
      · subst b; rw [ch0]; simp [hne]
      · obtain rfl : K = top + 1 := by omega
        rw [ch1]; simp
  · have x1 := mem' K p hK g1
    have x2 := mem' M p hM g2
    have nf : ∀ J, J < top → p ∈ ch J → p ≠ f0 ∧ p ≠ f1 ∧ p ≠ r := fun J hJ hp => ⟨fun e => fr0 J (by omega) (e ▸ hp), fun e => fr1 J (by omega) (e ▸ hp), fun e => by
      have := T.dis _ _ _ (by omega) (Nat.le_refl _) hp (e ▸ hrm); omega⟩
    rcases x1 with ⟨a, b⟩ | ⟨a, b⟩ | ⟨a, b⟩
    · rcases x2 with ⟨a', b'⟩ | ⟨a', b'⟩ | ⟨a', b'⟩
      · exact T.dis _ _ _ (by omega) (by omega) b b'
      · exact absurd b' (by have := nf K a b; rintro (e | e); exact this.1 e; exact this.2.1 e)
      · exact absurd b' (nf K a b).2.2
    · rcases x2 with ⟨a', b'⟩ | ⟨a', b'⟩ | ⟨a', b'⟩
      · exact absurd b (by have := nf M a' b'; rintro (e | e); exact this.1 e; exact this.2.1 e)
      · omega
      · subst b'
        rcases b with e | e
        · exact absurd e.symm hr0
        · exact absurd e.symm hr1
    · rcases x2 with ⟨a', b'⟩ | ⟨a', b'⟩ | ⟨a', b'⟩
      · exact absurd b (nf M a' b').2.2
      · subst b
        rcases b' with e | e
        · exact absurd e.symm hr0
        · exact absurd e.symm hr1
      · omega
  · rcases mem' _ _ hK hp with ⟨a, b⟩ | ⟨a, b⟩ | ⟨a, b⟩
    · exact T.bnd K p (by omega) b
    · rcases b with rfl | rfl
      · exact hf0
      · exact hf1
    · subst b; exact T.bnd top p (Nat.le_refl _) hrm
/-- A leaf to which nothing leads is taken out. -/
theorem Tree.cut (T : Tree S r t top ch) {A B : List Nat} {l : By} {d c : Nat} (h : Pos S t 0 (ch 0) A l d (c :: B)) (hno : 0 < top → ∀ b, b ∈ ch 1 → ∀ e, e ∈ (S b).list → childL e.val ≠ c) {n : Nod} (ok : Ok t 0 l n)
    (hh : hiN n = hiN (S c)) (hr : n.right = (S c).right) (hd : S' d = n) (ho : ∀ p, p ≠ d → p ≠ c → S' p = S p) : Tree S' r t top (up ch 0 (A ++ d :: B)) := by
  have hnd := T.nod 0 (by omega)
  have hm := h.mem
  have htop : 0 < top := by
    rcases Nat.eq_zero_or_pos top with e | e
    · subst e
      have := congrArg List.length (h.eq.symm.trans T.root)
      simp at this
      omega
    · exact e
  have heq := h.eq
  rw [heq] at hnd
  obtain ⟨hA, hB⟩ := nodup_mid hnd
  have hcA : c ∉ A := fun e => by
    rw [List.nodup_append] at hnd
    exact hnd.2.2 c e c (by simp) rfl
  have hcd : c ≠ d := fun e => hB (by simp [e])
  have hcB : c ∉ B := by
    rw [List.nodup_append, List.nodup_cons, List.nodup_cons] at hnd
    exact hnd.2.1.2.1
  have hdB : d ∉ B := fun e => hB (by simp [e])
  obtain ⟨-, ⟨lc, ec, okc⟩, post⟩ := h.post
  have hp : Pos S' t 0 (A ++ d :: B) A l d B := by
    refine ⟨rfl, ?_, by rw [hd]; exact ok, ?_⟩
    · obtain ⟨p0, h1⟩ := h.pre
      exact ⟨p0, seg_congr (fun a ha => ho a (fun e => hA (e ▸ ha)) (fun e => hcA (e ▸ ha))) h1⟩
    · rw [hd, hh, hr]
      exact seg_congr (fun a ha => ho a (fun e => hdB (e ▸ ha)) (fun e => hcB (e ▸ ha))) post
  have hl := hp.lvl
  refine T.level (S' := S') (L := 0) (by omega) (ps' := A ++ d :: B) (fun p g1 _ => ho p (fun e => g1 (by rw [heq, e]; simp)) (fun e => g1 (by rw [heq, e]; simp))) hl (fun e => by omega) (fun _ b hb e hm A' d' B' h' => ?_) (fun K hK => by omega) ?_ (fun p hp => Or.inl ?_)
  · have e1 := heq.symm.trans h'.eq
    rcases List.append_eq_append_iff.1 e1 with ⟨M, e2, e3⟩ | ⟨M, e2, e3⟩
    · cases M with
      | nil =>
        rw [List.append_nil] at e2
        obtain ⟨rfl, rfl⟩ := List.cons.inj e3
        subst e2
        have := h.low_eq.trans h'.low_eq.symm
        cases this
        exact ⟨_, _, hp⟩
      | cons x M =>
        rw [List.cons_append] at e3
        obtain ⟨rfl, e5⟩ := List.cons.inj e3
        cases M with
        | nil =>
          -- d' = c: nothing leads to it
          rw [List.nil_append] at e5
          obtain ⟨rfl, rfl⟩ := List.cons.inj e5
          obtain ⟨A2, d2, B2, g1, g2⟩ := T.lead 0 (by omega) b hb e hm
          exfalso
          apply hno htop b hb e hm
          rw [g2]
          -- the same low: the same page
          have low1 := g1.low_eq
          have low2 := h'.low_eq
          have e4 := g1.eq.symm.trans h'.eq
          rcases List.append_eq_append_iff.1 e4 with ⟨M, k1, k2⟩ | ⟨M, k1, k2⟩
          · cases M with
            | nil => obtain ⟨k, -⟩ := List.cons.inj k2; exact k
            | cons y M =>
              exfalso
              obtain ⟨k, -⟩ := List.cons.inj k2
              obtain ⟨p0, pr⟩ := h'.pre
              rw [k1] at pr
              obtain ⟨m, q, s1, s2⟩ := seg_app.1 pr
              have hm1 := seg_end s1
              rw [← low1] at hm1
              subst hm1
              have := seg_lt s2
              rw [lt_irrefl] at this
              cases this
          · cases M with
            | nil => obtain ⟨k, -⟩ := List.cons.inj k2; exact k.symm
            | cons y M =>
              exfalso
              obtain ⟨p0, pr⟩ := g1.pre
              rw [k1] at pr
              obtain ⟨m, q, s1, s2⟩ := seg_app.1 pr
              have hm1 := seg_end s1
              rw [← low2] at hm1
              subst hm1
              have := seg_lt s2
              rw [lt_irrefl] at this
              cases this
        | cons y M =>
          rw [List.cons_append] at e5
          obtain ⟨rfl, rfl⟩ := List.cons.inj e5
          subst e2
          refine ⟨A ++ d :: M, B', ?_⟩
          have hl' := hl
          rw [show A ++ d :: (M ++ d' :: B') = (A ++ d :: M) ++ d' :: B' by simp] at hl' ⊢
          refine hl'.at_ ?_
          rw [h'.low_eq, endHi_app, endHi_app]
          show endHi S (hiN (S c)) M = endHi S' (hiN (S' d)) M
          rw [hd, hh]
          exact (endHi_congr fun a ha => by rw [ho a (fun e => hdB (e ▸ (by simp [ha]))) (fun e => hcB (e ▸ (by simp [ha])))]).symm
    · cases M with
      | nil =>
        rw [List.append_nil] at e2
        obtain ⟨rfl, rfl⟩ := List.cons.inj e3
        subst e2
        have := h.low_eq.trans h'.low_eq.symm
        cases this
        exact ⟨_, _, hp⟩
      | cons x M =>
        rw [List.cons_append] at e3
        obtain ⟨rfl, rfl⟩ := List.cons.inj e3
        subst e2
        refine ⟨A', M ++ d :: B, ?_⟩
        have hl' := hl
        rw [show (A' ++ d' :: M) ++ d :: B = A' ++ d' :: (M ++ d :: B) by simp] at hl' ⊢
        refine hl'.at_ ?_
        rw [h'.low_eq]
        exact (endHi_congr fun a ha => by rw [ho a (fun e => hA (e ▸ (by simp [ha]))) (fun e => hcA (e ▸ (by simp [ha])))]).symm
  · rw [List.nodup_append, List.nodup_cons, List.nodup_cons] at hnd
    rw [List.nodup_append, List.nodup_cons]
    refine ⟨hnd.1, ⟨hdB, hnd.2.1.2.2⟩, fun a ha b hb => hnd.2.2 a ha b ?_⟩
    rcases List.mem_cons.1 hb with rfl | hb
    · simp
    · simp [hb]
  · rw [heq]
    simp at hp ⊢
    rcases hp with hp | hp | hp
    · exact Or.inl hp
    · exact Or.inr (Or.inl hp)
    · exact Or.inr (Or.inr (Or.inr hp))
end
end Go.Proofs.Ythoaangmekkcmaa.Bk
