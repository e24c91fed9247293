/- The document's Far, Next and Round, plain: they are what the code's walk comes to. -/
import Derived.Test.YtbcemognghkmcaaKtU
namespace Go.Proofs.Ytbcemognghkmcaa.Kt
open Go.ChangeShapes Go.WideShapes Go.ChangeAt Go.RowKit Go.PlainAid Aid
set_option linter.unusedVariables false
set_option linter.unusedSimpArgs false
/-! Far, row by row. -/
def inL (l : List Int) (n : Int) : Bool := l.any fun x => decide (x = n)
theorem inL_iff {l : List Int} {n : Int} : inL l n = true ↔ n ∈ l := by
  unfold inL
  rw [List.any_eq_true]
  constructor
  · rintro ⟨x, hx, h⟩
    have : x = n := by simpa using h
    rw [← this]; exact hx
  · intro h; exact ⟨n, h, by simp⟩
def nx (at_ : List Int) (st : List Int × List Int) (e : Edg) : List Int × List Int := if inL at_ e.1 = true ∧ inL st.1 e.2 = false then (st.1 ++ [e.2], st.2 ++ [e.2]) else st
def layer (es : List Edg) (at_ seen : List Int) : List Int × List Int := es.foldl (nx at_) (seen, [])
def farG (es : List Edg) (to_ : Int) : Nat → Nat → List Int → List Int → Int
  | 0, _, _, _ => -1
  | m + 1, d, at_, seen => if inL at_ to_ = true then (d : Int) else farG es to_ m (d + 1) (layer es at_ seen).2 (layer es at_ seen).1
def farR (es : List Edg) (a to_ : Int) : Int := farG es to_ (es.length + 1) 0 [a] [a]
theorem layer_spec (es : List Edg) (at_ seen : List Int) : (∀ x, x ∈ (layer es at_ seen).1 ↔ x ∈ seen ∨ x ∈ (layer es at_ seen).2) ∧ (∀ x, x ∈ (layer es at_ seen).2 ↔ x ∉ seen ∧ ∃ a, a ∈ at_ ∧ (a, x) ∈ es) := by
  unfold layer
  rw [← List.reverse_reverse es]
  generalize es.reverse = m
  induction m with
  | nil => exact ⟨fun x => by simp, fun x => by simp⟩
  | cons e m ih =>
    obtain ⟨i1, i2⟩ := ih
    rw [List.reverse_cons, List.foldl_append]
    generalize hs : m.reverse.foldl (nx at_) (seen, []) = st at *
    show (∀ x, x ∈ (nx at_ st e).1 ↔ x ∈ seen ∨ x ∈ (nx at_ st e).2) ∧ (∀ x, x ∈ (nx at_ st e).2 ↔ x ∉ seen ∧ ∃ a, a ∈ at_ ∧ (a, x) ∈ m.reverse ++ [e])
    have hm : ∀ a x, (a, x) ∈ m.reverse ++ [e] ↔ (a, x) ∈ m.reverse ∨ (a, x) = e := fun a x => by simp
    unfold nx
    by_cases h : inL at_ e.1 = true ∧ inL st.1 e.2 = false
    · rw [if_pos h]
      obtain ⟨h1, h2⟩ := h
      have h3 : e.2 ∉ st.1 := fun x => by rw [inL_iff.2 x] at h2; cases h2
      refine ⟨fun x => ?_, fun x => ?_⟩
      · show x ∈ st.1 ++ [e.2] ↔ x ∈ seen ∨ x ∈ st.2 ++ [e.2]
        rw [List.mem_append, List.mem_append, i1 x, or_assoc]
      · show x ∈ st.2 ++ [e.2] ↔ _
        rw [List.mem_append, i2 x, List.mem_singleton]
        constructor
        · rintro (⟨x1, a, x2, x3⟩ | rfl)
          · exact ⟨x1, a, x2, (hm _ _).2 (Or.inl x3)⟩
          · exact ⟨fun hx => h3 ((i1 _).2 (Or.inl hx)), e.1, inL_iff.1 h1, (hm _ _).2 (Or.inr rfl)⟩
        · rintro ⟨x1, a, x2, x3⟩
          rcases (hm _ _).1 x3 with x3 | x3
          · exact Or.inl ⟨x1, a, x2, x3⟩
          · exact Or.inr (by rw [← x3])
    · rw [if_neg h]
      refine ⟨i1, fun x => ?_⟩
      rw [i2 x]
      constructor
      · rintro ⟨x1, a, x2, x3⟩
        exact ⟨x1, a, x2, (hm _ _).2 (Or.inl x3)⟩
      · rintro ⟨x1, a, x2, x3⟩
        rcases (hm _ _).1 x3 with x3 | x3
        · exact ⟨x1, a, x2, x3⟩
        · have e1 : e.1 = a := by rw [← x3]
          have e2 : e.2 = x := by rw [← x3]
          have h4 : x ∈ st.1 := by
            by_cases hc : inL st.1 e.2 = true
            · rw [← e2]; exact inL_iff.1 hc
            · exact absurd ⟨by rw [e1]; exact inL_iff.2 x2, by simpa using hc⟩ h
          rcases (i1 x).1 h4 with h5 | h5
          · exact absurd h5 x1
          · exact (i2 x).1 h5
/-- What the rows are behind so many rounds. -/
structure Ly (es : List Edg) (a : Int) (d : Nat) (at_ seen : List Int) : Prop where
  se : ∀ x, x ∈ seen ↔ ∃ m, m ≤ d ∧ Wn es m a x
  ly : ∀ x, x ∈ at_ ↔ Wn es d a x ∧ ∀ m, m < d → ¬ Wn es m a x
theorem Ly.next {es : List Edg} {a : Int} {d : Nat} {at_ seen : List Int} (h : Ly es a d at_ seen) : Ly es a (d + 1) (layer es at_ seen).2 (layer es at_ seen).1 := by
  obtain ⟨l1, l2⟩ := layer_spec es at_ seen
  have key : ∀ x, x ∈ (layer es at_ seen).2 ↔ Wn es (d + 1) a x ∧ ∀ m, m < d + 1 → ¬ Wn es m a x := fun x => by
    rw [l2 x]
    constructor
    · rintro ⟨h1, b, h2, h3⟩
      obtain ⟨h4, h5⟩ := (h.ly b).1 h2
      exact ⟨h4.snoc h3, fun m hm hw => h1 ((h.se x).2 ⟨m, by omega, hw⟩)⟩
    · rintro ⟨h1, h2⟩
      obtain ⟨b, h3, h4⟩ := h1.last
      refine ⟨fun hx => ?_, b, (h.ly b).2 ⟨h3, fun m hm hw => h2 (m + 1) (by omega) (hw.snoc h4)⟩, h4⟩
      obtain ⟨m, hm, hw⟩ := (h.se x).1 hx
      exact h2 m (by omega) hw
  refine ⟨fun x => ?_, key⟩
  rw [l1 x, key x, h.se x]
  constructor
  · rintro (⟨m, h1, h2⟩ | ⟨h1, h2⟩)
    · exact ⟨m, by omega, h2⟩
    · exact ⟨d + 1, Nat.le_refl _, h1⟩
  · rintro ⟨m, h1, h2⟩
    by_cases hx : ∃ k, k ≤ d ∧ Wn es k a x
    · exact Or.inl hx
    · have hm : m = d + 1 := by
        rcases Nat.lt_or_ge m (d + 1) with h3 | h3
        · exact absurd ⟨m, by omega, h2⟩ hx
        · omega
      subst hm
      exact Or.inr ⟨h2, fun k hk hw => hx ⟨k, by omega, hw⟩⟩
theorem Ly.start (es : List Edg) (a : Int) : Ly es a 0 [a] [a] := by
  have h0 : ∀ x, Wn es 0 a x ↔ x = a := fun x => ⟨fun h => by cases h; rfl, fun h => by rw [h]; exact Wn.zero a⟩
  refine ⟨fun x => ?_, fun x => ?_⟩
  · rw [List.mem_singleton]
    constructor
    · rintro rfl; exact ⟨0, Nat.le_refl _, Wn.zero _⟩
    · rintro ⟨m, h1, h2⟩
      obtain rfl : m = 0 := by omega
      exact (h0 x).1 h2
  · rw [List.mem_singleton]
    exact ⟨fun h => ⟨(h0 x).2 h, fun m hm => by omega⟩, fun h => (h0 x).1 h.1⟩
theorem farG_some {es : List Edg} {a to_ : Int} {n : Nat} (hn : Wn es n a to_) (hm : ∀ m, Wn es m a to_ → n ≤ m) : ∀ (m d : Nat) (at_ seen : List Int), Ly es a d at_ seen → d ≤ n → n < d + m → farG es to_ m d at_ seen = n
  | 0, d, at_, seen, _, h1, h2 => by omega
  | m + 1, d, at_, seen, h, h1, h2 => by
    unfold farG
    by_cases hd : d = n
    · subst hd
      rw [if_pos (inL_iff.2 ((h.ly to_).2 ⟨hn, fun k hk hw => by have := hm k hw; omega⟩))]
    · rw [if_neg (fun hx => by
        have := hm d ((h.ly to_).1 (inL_iff.1 hx)).1
        omega)]
      exact farG_some hn hm m (d + 1) _ _ h.next (by omega) (by omega)
theorem farG_none {es : List Edg} {a to_ : Int} (hn : ∀ m, ¬ Wn es m a to_) : ∀ (m d : Nat) (at_ seen : List Int), Ly es a d at_ seen → farG es to_ m d at_ seen = -1
  | 0, d, at_, seen, _ => rfl
  | m + 1, d, at_, seen, h => by
    unfold farG
    rw [if_neg (fun hx => hn d ((h.ly to_).1 (inL_iff.1 hx)).1)]
    exact farG_none hn m (d + 1) _ _ h.next
theorem farR_is (es : List Edg) (a id : Int) : farR es a id = if hasF (farE es id) a = true then dF (farE es id) a else -1 := by
  unfold farR
  by_cases h : hasF (farE es id) a = true
  · rw [if_pos h]
    obtain ⟨n, h1, h2, h3⟩ := far_nat h
    have := (far_lt h).1
    rw [farG_some h2 h3 _ 0 _ _ (Ly.start es a) (Nat.zero_le _) (by omega), h1]
  · rw [if_neg h]
    exact farG_none (fun m hm => h (far_min hm).1) _ 0 _ _ (Ly.start es a)
/-! The least of some. -/
def lstep (st : Int × Bool) (x : Int) : Int × Bool := if st.2 = false ∨ x < st.1 then (x, true) else st
def leastL (l : List Int) : Int × Bool := l.foldl lstep (0, false)
theorem leastL_snoc (l : List Int) (x : Int) : leastL (l ++ [x]) = lstep (leastL l) x := by unfold leastL; rw [List.foldl_append]; rfl
theorem leastL_spec (l : List Int) : (l = [] ∧ leastL l = (0, false)) ∨ ((leastL l).2 = true ∧ (leastL l).1 ∈ l ∧ ∀ x, x ∈ l → (leastL l).1 ≤ x) := by
  rw [← List.reverse_reverse l]
  generalize l.reverse = m
  induction m with
  | nil => exact Or.inl ⟨rfl, rfl⟩
  | cons x m ih =>
    right
    rw [List.reverse_cons, leastL_snoc]
    unfold lstep
    rcases ih with ⟨h1, h2⟩ | ⟨h1, h2, h3⟩
    · rw [if_pos (Or.inl (by rw [h2])), h1]
      exact ⟨rfl, by simp, fun y hy => by simp at hy; rw [hy]; exact Int.le_refl _⟩
    · by_cases h : x < (leastL m.reverse).1
      · rw [if_pos (Or.inr h)]
        refine ⟨rfl, by simp, fun y hy => ?_⟩
        rcases List.mem_append.1 hy with hy | hy
        · have := h3 y hy
          show x ≤ y
          omega
        · rw [List.mem_singleton.1 hy]; exact Int.le_refl _
      · rw [if_neg (by rw [h1]; simp; omega)]
        refine ⟨h1, List.mem_append_left _ h2, fun y hy => ?_⟩
        rcases List.mem_append.1 hy with hy | hy
        · exact h3 y hy
        · rw [List.mem_singleton.1 hy]; omega
theorem leastL_is {l : List Int} {x : Int} (hx : x ∈ l) (h : ∀ y, y ∈ l → x ≤ y) : leastL l = (x, true) := by
  rcases leastL_spec l with ⟨h1, -⟩ | ⟨h1, h2, h3⟩
  · rw [h1] at hx; cases hx
  · have h4 := h _ h2
    have h5 := h3 x hx
    generalize leastL l = s at *
    obtain ⟨a, b⟩ := s
    dsimp only at *
    rw [h1, show a = x by omega]
theorem leastL_none {l : List Int} (h : l = []) : leastL l = (0, false) := by rw [h]; rfl
theorem leastL_congr {l m : List Int} (h : ∀ x, x ∈ l ↔ x ∈ m) : leastL l = leastL m := by
  rcases leastL_spec m with ⟨h1, h2⟩ | ⟨h1, h2, h3⟩
  · rw [h2]
    refine leastL_none (List.eq_nil_iff_forall_not_mem.2 fun x hx => ?_)
    rw [h1] at h
    exact List.not_mem_nil ((h x).1 hx)
  · rw [leastL_is ((h _).2 h2) fun y hy => h3 y ((h y).1 hy)]
    generalize leastL m = s at *
    obtain ⟨a, b⟩ := s
    dsimp only at *
    rw [h1]
/-! Next. -/
def okN (es : List Edg) (a id : Int) (k : Int) (e : Edg) : Bool := decide (e.1 = a) && decide (farR es e.2 id = k - 1)
def candN (es : List Edg) (a id : Int) (k : Int) (m : List Edg) : List Int := (m.filter (okN es a id k)).map (·.2)
def nextR (es : List Edg) (a id : Int) (k : Int) : Int × Bool := leastL (candN es a id k es)
theorem cand_mem {es m : List Edg} {a id k x : Int} : x ∈ candN es a id k m ↔ (a, x) ∈ m ∧ farR es x id = k - 1 := by
  unfold candN
  rw [List.mem_map]
  constructor
  · rintro ⟨e, he, rfl⟩
    obtain ⟨h1, h2⟩ := List.mem_filter.1 he
    unfold okN at h2
    simp only [Bool.and_eq_true, decide_eq_true_eq] at h2
    exact ⟨by rw [← h2.1]; exact h1, h2.2⟩
  · rintro ⟨h1, h2⟩
    exact ⟨(a, x), List.mem_filter.2 ⟨h1, by unfold okN; simp [h2]⟩, rfl⟩
/-- Next, with one edge more than the nearest one has, is the nearest one. -/
theorem next_is {es : List Edg} {a id : Int} (h : (nearL (farE es id) (toL es a)).2 = true) : nextR es a id (dF (farE es id) (nearL (farE es id) (toL es a)).1 + 1) = nearL (farE es id) (toL es a) := by
  rcases nearL_mem (farE es id) (toL es a) with h1 | ⟨h1, h2, h3⟩
  · rw [h1] at h; cases h
  have hm := nearL_min (farE es id) (toL es a)
  generalize nearL (farE es id) (toL es a) = s at *
  obtain ⟨x, b⟩ := s
  dsimp only at *
  subst h1
  unfold nextR
  refine leastL_is (cand_mem.2 ⟨mem_toL.1 h2, by rw [farR_is, if_pos h3]; omega⟩) fun y hy => ?_
  obtain ⟨h4, h5⟩ := cand_mem.1 hy
  rw [farR_is] at h5
  by_cases hc : hasF (farE es id) y = true
  · rw [if_pos hc] at h5
    rcases (hm y (mem_toL.2 h4) hc).2 with h6 | h6
    · omega
    · exact h6.2
  · rw [if_neg hc] at h5
    have := (farE_le es id x h3).1
    omega
/-- With fewer there is none. -/
theorem next_none {es : List Edg} {a id : Int} {k : Int} (hk : 1 ≤ k) (h : (nearL (farE es id) (toL es a)).2 = true → k < dF (farE es id) (nearL (farE es id) (toL es a)).1 + 1) : (nextR es a id k).2 = false := by
  unfold nextR
  have : candN es a id k es = [] := List.eq_nil_iff_forall_not_mem.2 fun y hy => by
    obtain ⟨h4, h5⟩ := cand_mem.1 hy
    rw [farR_is] at h5
    by_cases hc : hasF (farE es id) y = true
    · rw [if_pos hc] at h5
      obtain ⟨h6, h7⟩ := nearL_min (farE es id) (toL es a) y (mem_toL.2 h4) hc
      have := h h6
      omega
    · rw [if_neg hc] at h5; omega
  rw [this]; rfl
/-! Round. -/
def goR (es : List Edg) (id : Int) : Nat → Int → List Int
  | 0, _ => []
  | k + 1, a => a :: goR es id k (nextR es a id ((k + 1 : Nat) : Int)).1
def rndG (es : List Edg) (id : Int) : Nat → Nat → List Int
  | 0, _ => []
  | m + 1, n => if (nextR es id id (n : Int)).2 = true then id :: goR es id (n - 1) (nextR es id id (n : Int)).1 else rndG es id m (n + 1)
def rndR (es : List Edg) (id : Int) : List Int := rndG es id es.length 1
theorem go_same (es : List Edg) (id : Int) : ∀ (k n : Nat) (a : Int), hasF (farE es id) a = true → dF (farE es id) a = k → k ≤ n → goR es id k a = rgo (toL es) (farE es id) id n a
  | 0, n, a, ha, hd, hk => by
    have : a = id := by
      rcases (farE_ok es id).1.up a ha with e | ⟨r, h1, h2, h3⟩
      · exact e
      · have := (farE_le es id r h1).1; omega
    rw [this, rgo_id]
    rfl
  | k + 1, 0, a, ha, hd, hk => by omega
  | k + 1, n + 1, a, ha, hd, hk => by
    have hne : a ≠ id := fun e => by rw [e, (farE_ok es id).1.di] at hd; omega
    obtain ⟨h1, h2, h3, h4⟩ := farE_next es id a ha hne
    have hd2 : dF (farE es id) (nearL (farE es id) (toL es a)).1 = (k : Int) := by
      have := (farE_ed h3 (mem_toL.1 h2)).2
      omega
    have hnx := next_is h1
    rw [hd2] at hnx
    unfold goR rgo
    rw [if_neg hne]
    have e : ((k + 1 : Nat) : Int) = (k : Int) + 1 := by omega
    rw [e, hnx]
    rw [go_same es id k n _ h3 hd2 (by omega)]
theorem rndG_skip {es : List Edg} {id : Int} : ∀ (m n : Nat), (∀ k, n ≤ k → k < n + m → (nextR es id id (k : Int)).2 = false) → rndG es id m n = []
  | 0, n, _ => rfl
  | m + 1, n, h => by
    unfold rndG
    rw [if_neg (by rw [h n (Nat.le_refl _) (by omega)]; simp)]
    exact rndG_skip m (n + 1) fun k h1 h2 => h k (by omega) (by omega)
theorem rndG_at {es : List Edg} {id : Int} (n0 : Nat) (h0 : (nextR es id id (n0 : Int)).2 = true) : ∀ (m n : Nat), n ≤ n0 → n0 < n + m → (∀ k, n ≤ k → k < n0 → (nextR es id id (k : Int)).2 = false) → rndG es id m n = id :: goR es id (n0 - 1) (nextR es id id (n0 : Int)).1
  | 0, n, h1, h2, _ => by omega
  | m + 1, n, h1, h2, h => by
    unfold rndG
    by_cases e : n = n0
    · subst e; rw [if_pos h0]
    · rw [if_neg (by rw [h n (Nat.le_refl _) (by omega)]; simp)]
      exact rndG_at n0 h0 m (n + 1) (by omega) (by omega) fun k h3 h4 => h k (by omega) h4
theorem rnd_same (es : List Edg) (id : Int) : rndR es id = rndL es id := by
  unfold rndR
  cases h : (nearL (farE es id) (toL es id)).2 with
  | false =>
    rw [rnd_none h]
    exact rndG_skip _ _ fun k hk _ => next_none (by omega) fun x => by rw [h] at x; cases x
  | true =>
    rw [rnd_some h]
    rcases nearL_mem (farE es id) (toL es id) with h1 | ⟨h1, h2, h3⟩
    · rw [h1] at h; cases h
    have hd0 := (farE_le es id _ h3).1
    have hlt := (far_lt h3).2 ⟨_, mem_toL.1 h2⟩
    obtain ⟨d, hd⟩ := Int.eq_ofNat_of_zero_le hd0
    have hnx := next_is h
    have e : ((d + 1 : Nat) : Int) = (d : Int) + 1 := by omega
    rw [hd, ← e] at hnx
    rw [rndG_at (d + 1) (by rw [hnx]; exact h) _ _ (by omega) (by omega) fun k h4 h5 => next_none (by omega) fun _ => by rw [hd]; omega, hnx]
    rw [show d + 1 - 1 = d by omega, go_same es id d (nsE id es).length _ h3 hd (by have := (farE_le es id _ h3).2; omega)]
end Go.Proofs.Ytbcemognghkmcaa.Kt
