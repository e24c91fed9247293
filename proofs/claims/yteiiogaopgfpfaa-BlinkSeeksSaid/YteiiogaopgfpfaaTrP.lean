/- Texts of ours, joined. -/
import Derived.Test.YteiiogaopgfpfaaNdV
import Derived.Test.YteiiogaopgfpfaaShelf
import Derived.Test.YteiiogaopgfpfaaNtA

-- joined
section
namespace Go.Proofs.Yteiiogaopgfpfaa.Tr
open Go.ChangeShapes Go.WideShapes Go.ChangeAt Go.RowKit Go.PlainAid Aid Nt Nd
set_option linter.unusedVariables false
set_option linter.unusedSimpArgs false
/-- A page at hand: its number, its node, the value that is the node's list. -/
structure Sh where
  page : Nat
  n : Nod
  v : Value
/-- A dirty page. -/
structure Db where
  page : Nat
  first : Nat
  un : Nat
def shC (x : Sh) : List Value := [.int .i64 x.page, .int .i64 x.n.tree, .int .i64 x.n.level, .int .i64 x.n.stamp, .bool x.n.has, .string (ofL x.n.high), .int .i64 x.n.right, x.v]
def dbC (x : Db) : List Value := [.int .i64 x.page, .int .i64 x.first, .int .i64 x.un]
def shs (H : List Sh) : List Value := H.flatMap shC
def dbs (D : List Db) : List Value := D.flatMap dbC
theorem flatMap_at {α β : Type} (f : α → List β) (n : Nat) (hf : ∀ x, (f x).length = n) : ∀ (M : List α) (q j : Nat) (x : α), M[q]? = some x → j < n → (M.flatMap f)[q * n + j]? = (f x)[j]?
  | a :: M, 0, j, x, h, hj => by
    simp only [List.getElem?_cons_zero, Option.some.injEq] at h
    subst h
    rw [List.flatMap_cons, Nat.zero_mul, Nat.zero_add, List.getElem?_append_left (by rw [hf]; exact hj)]
  | a :: M, q + 1, j, x, h, hj => by
    rw [List.flatMap_cons, List.getElem?_append_right (by rw [hf, Nat.add_mul]; omega), hf, show (q + 1) * n + j - n = q * n + j by rw [Nat.add_mul]; omega]
    exact flatMap_at f n hf M q j x (by simpa using h) hj
theorem flatMap_take {α β : Type} (f : α → List β) (n : Nat) (hf : ∀ x, (f x).length = n) : ∀ (M : List α) (i : Nat), (M.flatMap f).take (i * n) = (M.take i).flatMap f
  | [], i => by simp
  | a :: M, 0 => by simp
  | a :: M, i + 1 => by
    rw [List.flatMap_cons, List.take_succ_cons, List.flatMap_cons, show (i + 1) * n = (f a).length + i * n by rw [hf, Nat.add_mul]; omega, List.take_length_add_append, flatMap_take f n hf M i]
theorem flatMap_drop {α β : Type} (f : α → List β) (n : Nat) (hf : ∀ x, (f x).length = n) : ∀ (M : List α) (i : Nat), (M.flatMap f).drop (i * n) = (M.drop i).flatMap f
  | [], i => by simp
  | a :: M, 0 => by simp
  | a :: M, i + 1 => by
    rw [List.flatMap_cons, List.drop_succ_cons, show (i + 1) * n = (f a).length + i * n by rw [hf, Nat.add_mul]; omega, List.drop_length_add_append, flatMap_drop f n hf M i]
/-- The page that stands at a place. -/
def pgS (H : List Sh) (k : Nat) : Nat := (H.map Sh.page).getD k 0
def pgD (D : List Db) (k : Nat) : Nat := (D.map Db.page).getD k 0
theorem pgS_at {H : List Sh} {k : Nat} {x : Sh} (h : H[k]? = some x) : pgS H k = x.page := by simp [pgS, List.getD_eq_getElem?_getD, h]
theorem pgD_at {D : List Db} {k : Nat} {x : Db} (h : D[k]? = some x) : pgD D k = x.page := by simp [pgD, List.getD_eq_getElem?_getD, h]
/-- Rising numbers. -/
def Rise (L : List Nat) : Prop := L.Pairwise (· < ·)
/-- How many of them stand ahead of a number. -/
def spot (L : List Nat) (x : Int) : Nat := (L.takeWhile (fun p : Nat => decide ((p : Int) < x))).length
theorem spot_le (L : List Nat) (x : Int) : spot L x ≤ L.length := by
  unfold spot
  induction L with
  | nil => exact Nat.le_refl _
  | cons a L ih =>
    rw [List.takeWhile_cons]
    split
    · simp only [List.length_cons]; omega
    · exact Nat.zero_le _
theorem spot_lo (L : List Nat) (x : Int) (k : Nat) (h : k < spot L x) : ((L.getD k 0 : Nat) : Int) < x := by
  unfold spot at h
  induction L generalizing k with
  | nil => simp at h
  | cons a L ih =>
    rw [List.takeWhile_cons] at h
    split at h
    · rename_i ha
      cases k with
      | zero => simpa using ha
      | succ k => simpa using ih k (by simpa using h)
    · simp at h
theorem spot_hi (L : List Nat) (hr : Rise L) (x : Int) (k : Nat) (h : spot L x ≤ k) (hk : k < L.length) : x ≤ ((L.getD k 0 : Nat) : Int) := by
  unfold spot at h
  induction L generalizing k with
  | nil => simp at hk
  | cons a L ih =>
    rw [List.takeWhile_cons] at h
    split at h
    · cases k with
      | zero => simp at h
      | succ k => simpa using ih (List.Pairwise.of_cons hr) k (by simpa using h) (by simpa using hk)
    · rename_i ha
      have ha' : x ≤ (a : Int) := by simpa using ha
      cases k with
      | zero => simpa using ha'
      | succ k =>
        have hk' : k < L.length := by simpa using hk
        have h1 : a < L[k] := (List.pairwise_cons.1 hr).1 _ (List.getElem_mem hk')
        have h2 : (a :: L).getD (k + 1) 0 = L[k] := by simp [List.getD_eq_getElem?_getD, List.getElem?_eq_getElem hk']
        rw [h2]; omega
theorem rise_ins {L : List Nat} (hr : Rise L) (x i : Nat) (hi : i ≤ L.length) (h1 : ∀ k, k < i → L.getD k 0 < x) (h2 : ∀ k, i ≤ k → k < L.length → x < L.getD k 0) : Rise (L.take i ++ x :: L.drop i) := by
  unfold Rise at *
  have e := List.take_append_drop i L
  rw [← e] at hr
  rw [List.pairwise_append] at hr ⊢
  obtain ⟨a, b, c⟩ := hr
  have hA : ∀ y, y ∈ L.take i → y < x := fun y hy => by
    obtain ⟨k, hk, rfl⟩ := List.getElem_of_mem hy
    have := h1 k (by rw [List.length_take] at hk; omega)
    rwa [List.getD_eq_getElem?_getD, List.getElem?_eq_getElem (by rw [List.length_take] at hk; omega), Option.getD_some, ← List.getElem_take] at this
    all_goals exact hk
  have hB : ∀ y, y ∈ L.drop i → x < y := fun y hy => by
    obtain ⟨k, hk, rfl⟩ := List.getElem_of_mem hy
    rw [List.length_drop] at hk
    have := h2 (i + k) (by omega) (by omega)
    rwa [List.getD_eq_getElem?_getD, List.getElem?_eq_getElem (by omega), Option.getD_some, ← List.getElem_drop (h := by rw [List.length_drop]; exact hk)] at this
  refine ⟨a, List.pairwise_cons.2 ⟨hB, b⟩, fun y hy z hz => ?_⟩
  rcases List.mem_cons.1 hz with rfl | hz
  · exact hA y hy
  · exact c y hy z hz
theorem rise_cut {L : List Nat} (hr : Rise L) (i : Nat) : Rise (L.take i ++ L.drop (i + 1)) := by
  unfold Rise at *
  have e := List.take_append_drop i L
  rw [← e] at hr
  rw [List.pairwise_append] at hr ⊢
  obtain ⟨a, b, c⟩ := hr
  have hs : ∀ y, y ∈ L.drop (i + 1) → y ∈ L.drop i := fun y hy => by
    rw [← List.tail_drop] at hy
    exact List.mem_of_mem_tail hy
  refine ⟨a, ?_, fun y hy z hz => c y hy z (hs z hz)⟩
  rw [← List.tail_drop]
  exact List.Pairwise.tail b
end Go.Proofs.Yteiiogaopgfpfaa.Tr
end

-- joined
section
namespace Go.Proofs.Yteiiogaopgfpfaa.Nt
open Go.ChangeShapes Go.WideShapes Go.ChangeAt Go.RowKit Go.PlainAid Aid
set_option linter.unusedVariables false
set_option linter.unusedSimpArgs false
def flat (L : List Rec) : By := L.flatMap bytes
/-- The stamp of the k-th. -/
def at_ (L : List Rec) (k : Nat) : Nat := (flat (L.take k)).length + 1
theorem flat_snoc (L : List Rec) (r : Rec) : flat (L ++ [r]) = flat L ++ bytes r := by simp [flat]
theorem flat_cons (L : List Rec) (r : Rec) : flat (r :: L) = bytes r ++ flat L := by simp [flat]
theorem flat_app (L M : List Rec) : flat (L ++ M) = flat L ++ flat M := by simp [flat]
theorem bytes_pos (r : Rec) : 8 ≤ (bytes r).length := by rw [bytes_len]; omega
def rows : Nat → List Rec → List Value
  | _, [] => []
  | n, r :: t => .int .i64 ((n + 1 : Nat) : Int) :: .string (ofL (bytes r)) :: rows (n + (bytes r).length) t
theorem rows_len (n : Nat) (L : List Rec) : (rows n L).length = L.length * 2 := by
  induction L generalizing n with
  | nil => rfl
  | cons r t ih => simp [rows, ih]; omega
theorem at_zero (L : List Rec) : at_ L 0 = 1 := rfl
theorem at_succ (r : Rec) (t : List Rec) (k : Nat) : at_ (r :: t) (k + 1) = (bytes r).length + at_ t k := by
  simp [at_, flat_cons]; omega
theorem rows_at (n : Nat) (L : List Rec) (k : Nat) (r : Rec) (h : L[k]? = some r) :
    (rows n L)[k * 2]? = some (.int .i64 ((n + at_ L k : Nat) : Int)) ∧ (rows n L)[k * 2 + 1]? = some (.string (ofL (bytes r))) := by
  induction L generalizing n k with
  | nil => cases h
  | cons x t ih =>
    cases k with
    | zero =>
      simp only [List.getElem?_cons_zero, Option.some.injEq] at h
      subst h
      exact ⟨rfl, rfl⟩
    | succ k =>
      simp only [List.getElem?_cons_succ] at h
      have := ih (n + (bytes x).length) k h
      rw [at_succ, show (k + 1) * 2 = k * 2 + 1 + 1 by omega]
      rw [show n + (bytes x).length + at_ t k = n + ((bytes x).length + at_ t k) by omega] at this
      exact this
theorem rows_snoc (n : Nat) (L : List Rec) (r : Rec) : rows n (L ++ [r]) = rows n L ++ [.int .i64 ((n + (flat L).length + 1 : Nat) : Int), .string (ofL (bytes r))] := by
  induction L generalizing n with
  | nil => rfl
  | cons x t ih =>
    simp only [List.cons_append, rows, ih, flat_cons, List.length_append]
    rw [show n + (bytes x).length + (flat t).length + 1 = n + ((bytes x).length + (flat t).length) + 1 by omega]
theorem at_next (L : List Rec) (k : Nat) (r : Rec) (h : L[k]? = some r) : at_ L (k + 1) = at_ L k + (bytes r).length := by
  unfold at_
  rw [List.take_add_one, h]
  simp only [Option.toList_some, flat_snoc, List.length_append]; omega
theorem at_full (L : List Rec) : at_ L L.length = (flat L).length + 1 := by unfold at_; rw [List.take_length]
theorem at_mono (L : List Rec) (k d : Nat) (h : k + d ≤ L.length) : at_ L k ≤ at_ L (k + d) := by
  induction d with
  | zero => exact Nat.le_refl _
  | succ d ih =>
    have := ih (by omega)
    have hx := at_next L (k + d) _ (List.getElem?_eq_getElem (show k + d < L.length by omega))
    rw [show k + (d + 1) = k + d + 1 by omega, hx]; omega
theorem at_le (L : List Rec) {k j : Nat} (h : k ≤ j) (hj : j ≤ L.length) : at_ L k ≤ at_ L j := by
  have := at_mono L k (j - k) (by omega)
  rwa [show k + (j - k) = j by omega] at this
theorem at_lt (L : List Rec) {k j : Nat} (h : k < j) (hj : j ≤ L.length) : at_ L k + 8 ≤ at_ L j := by
  have h1 := at_next L k _ (List.getElem?_eq_getElem (show k < L.length by omega))
  have h2 := bytes_pos (L[k]'(by omega))
  have h3 := at_le L (show k + 1 ≤ j by omega) hj
  omega
theorem at_end (L : List Rec) (k : Nat) (r : Rec) (h : L[k]? = some r) : at_ L k + (bytes r).length ≤ (flat L).length + 1 := by
  have hk : k < L.length := (List.getElem?_eq_some_iff.1 h).1
  rw [← at_next L k r h, ← at_full]
  exact at_le L hk (Nat.le_refl _)
theorem at_inj (L : List Rec) {k j : Nat} (hk : k < L.length) (hj : j < L.length) (h : at_ L k = at_ L j) : k = j := by
  rcases Nat.lt_trichotomy k j with h1 | h1 | h1
  · have := at_lt L h1 (by omega); omega
  · exact h1
  · have := at_lt L h1 (by omega); omega
theorem at_last (L : List Rec) (r : Rec) : at_ (L ++ [r]) L.length = (flat L).length + 1 := by unfold at_; rw [List.take_left]
theorem at_snoc (L : List Rec) (r : Rec) (k : Nat) (h : k ≤ L.length) : at_ (L ++ [r]) k = at_ L k := by unfold at_; rw [List.take_append_of_le_length h]
theorem small_bytes {r : Rec} (h : goodB r = true) : (bytes r).length ≤ 4271 ∧ 29 ≤ (bytes r).length := by
  have g := goods h
  have := size_small g
  have := body_size r g.pg
  have := bytes_len r
  have h29 : 29 ≤ sizeR r := by unfold sizeR; omega
  omega
/-- The bytes tell of these records, and of no more. -/
theorem splits (s : By) : ∃ L t, s = flat L ++ t ∧ (∀ r, r ∈ L → goodB r = true) ∧ readR t = none := by
  obtain ⟨n, hn⟩ : ∃ n, n = s.length := ⟨_, rfl⟩
  induction n using Nat.strongRecOn generalizing s with
  | _ n ih =>
    cases h : readR s with
    | none => exact ⟨[], s, rfl, fun _ h => (by cases h), h⟩
    | some q =>
      obtain ⟨r, m⟩ := q
      obtain ⟨hg, hm, hb, -⟩ := read_some h
      have hl := congrArg List.length hb
      rw [List.length_take] at hl
      have := bytes_pos r
      obtain ⟨L, t, h1, h2, h3⟩ := ih (s.drop m).length (by rw [List.length_drop]; omega) (s.drop m) rfl
      refine ⟨r :: L, t, ?_, ?_, h3⟩
      · rw [flat_cons, List.append_assoc, ← h1, hb]; exact (List.take_append_drop m s).symm
      · intro x hx
        rcases List.mem_cons.1 hx with rfl | hx
        · exact hg
        · exact h2 x hx
theorem split_unique (L M : List Rec) (s t : By) (h : flat L ++ s = flat M ++ t) (hL : ∀ r, r ∈ L → goodB r = true) (hM : ∀ r, r ∈ M → goodB r = true) (hs : readR s = none) (ht : readR t = none) : L = M ∧ s = t := by
  induction L generalizing M with
  | nil =>
    cases M with
    | nil => exact ⟨rfl, by simpa [flat] using h⟩
    | cons y M =>
      rw [show flat [] ++ s = s from rfl, flat_cons, List.append_assoc] at h
      rw [h, read_bytes y (hM y List.mem_cons_self)] at hs
      cases hs
  | cons x L ih =>
    cases M with
    | nil =>
      rw [show flat [] ++ t = t from rfl, flat_cons, List.append_assoc] at h
      rw [← h, read_bytes x (hL x List.mem_cons_self)] at ht
      cases ht
    | cons y M =>
      rw [flat_cons, flat_cons, List.append_assoc, List.append_assoc] at h
      have h1 := read_bytes x (hL x List.mem_cons_self) (flat L ++ s)
      rw [h, read_bytes y (hM y List.mem_cons_self)] at h1
      simp only [Option.some.injEq, Prod.mk.injEq] at h1
      obtain ⟨rfl, -⟩ := h1
      obtain ⟨rfl, h2⟩ := ih M (List.append_cancel_left h) (fun r hr => hL r (List.mem_cons_of_mem _ hr)) (fun r hr => hM r (List.mem_cons_of_mem _ hr))
      exact ⟨rfl, h2⟩
/-- A beginning of records tells of the first ones of them. -/
theorem split_take (L : List Rec) (k : Nat) (hL : ∀ r, r ∈ L → goodB r = true) :
    ∃ j t, j ≤ L.length ∧ (flat L).take k = flat (L.take j) ++ t ∧ readR t = none ∧ ∀ i, i ≤ L.length → (flat (L.take i)).length ≤ k → i ≤ j := by
  obtain ⟨M, t, h1, h2, h3⟩ := splits ((flat L).take k)
  have hpre : ∀ (L M : List Rec) (t u : By), flat L = flat M ++ t ++ u → (∀ r, r ∈ L → goodB r = true) → (∀ r, r ∈ M → goodB r = true) → ∃ j, j ≤ L.length ∧ M = L.take j := by
    intro L M
    induction M generalizing L with
    | nil => intro t u _ _ _; exact ⟨0, Nat.zero_le _, rfl⟩
    | cons y M ih =>
      intro t u h hL hM
      cases L with
      | nil =>
        have := congrArg List.length h
        simp [flat_cons, List.length_append] at this
        have := bytes_pos y
        simp [flat] at *; omega
      | cons x L =>
        have h1 := read_bytes x (hL x List.mem_cons_self) (flat L)
        rw [← flat_cons, h, flat_cons, List.append_assoc, List.append_assoc, read_bytes y (hM y List.mem_cons_self)] at h1
        simp only [Option.some.injEq, Prod.mk.injEq] at h1
        obtain ⟨rfl, -⟩ := h1
        rw [flat_cons, flat_cons, List.append_assoc, List.append_assoc] at h
        obtain ⟨j, hj, rfl⟩ := ih L t u (by rw [List.append_assoc]; exact List.append_cancel_left h) (fun r hr => hL r (List.mem_cons_of_mem _ hr)) (fun r hr => hM r (List.mem_cons_of_mem _ hr))
        exact ⟨j + 1, by simp; omega, rfl⟩
  obtain ⟨j, hj, rfl⟩ := hpre L M t ((flat L).drop k) (by rw [← h1, List.take_append_drop]) hL h2
  refine ⟨j, t, hj, h1, h3, fun i hi hk => ?_⟩
  rcases Nat.lt_or_ge j i with hlt | hle
  · exfalso
    -- the (j+1)-th record is there whole
    have hx : L[j]? = some (L[j]'(by omega)) := List.getElem?_eq_getElem _
    have e1 : flat (L.take (j + 1)) = flat (L.take j) ++ bytes (L[j]'(by omega)) := by rw [List.take_add_one, hx]; simp only [Option.toList_some, flat_snoc]
    have hlen := at_le L (show j + 1 ≤ i by omega) hi
    unfold at_ at hlen
    have e2 : flat L = flat (L.take (j + 1)) ++ flat (L.drop (j + 1)) := by rw [← flat_app, List.take_append_drop]
    have e3 : (flat L).take k = flat (L.take (j + 1)) ++ (flat (L.drop (j + 1))).take (k - (flat (L.take (j + 1))).length) := by
      rw [e2, List.take_append, List.take_of_length_le (by omega)]
    rw [h1, e1, List.append_assoc] at e3
    have e4 := List.append_cancel_left e3
    rw [e4, read_bytes _ (hL _ (List.getElem_mem _))] at h3
    cases h3
  · exact hle
end Go.Proofs.Yteiiogaopgfpfaa.Nt
end
