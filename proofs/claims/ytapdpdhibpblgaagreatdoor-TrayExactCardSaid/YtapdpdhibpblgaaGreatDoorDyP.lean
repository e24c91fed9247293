/- Texts of ours, joined. -/
import Derived.Test.YtapdpdhibpblgaaGreatDoorNtA
import Derived.Test.YtapdpdhibpblgaaGreatDoorChg
import Derived.Test.YtapdpdhibpblgaaGreatDoorChecked

-- joined
section
namespace Go.Proofs.YtapdpdhibpblgaaGreatDoor.Nt
open Go.ChangeShapes Go.WideShapes Go.ChangeAt Go.RowKit Go.PlainAid Aid
set_option linter.unusedVariables false
set_option linter.unusedSimpArgs false
def flat (L : List Rec) : By := L.flatMap bytes
/-- The stamp of the k-th. -/
def at_ (L : List Rec) (k : Nat) : Nat := (flat (L.take k)).length + 1
theorem flat_snoc (L : List Rec) (r : Rec) : flat (L ++ [r]) = flat L ++ bytes r := by simp [flat]
theorem flat_cons (L : List Rec) (r : Rec) : flat (r :: L) = bytes r ++ flat L := by simp [flat]
theorem flat_app (L M : List Rec) : flat (L ++ M) = flat L ++ flat M := by simp [flat]
theorem bytes_pos (r : Rec) : 8 ≤ (bytes r).length := by rw [bytes_len]; omega
def rows : Nat → List Rec → List Value
  | _, [] => []
  | n, r :: t => .int .i64 ((n + 1 : Nat) : Int) :: .string (ofL (bytes r)) :: rows (n + (bytes r).length) t
theorem rows_len (n : Nat) (L : List Rec) : (rows n L).length = L.length * 2 := by
  induction L generalizing n with
  | nil => rfl
  | cons r t ih => simp [rows, ih]; omega
theorem at_zero (L : List Rec) : at_ L 0 = 1 := rfl
theorem at_succ (r : Rec) (t : List Rec) (k : Nat) : at_ (r :: t) (k + 1) = (bytes r).length + at_ t k := by
  simp [at_, flat_cons]; omega
theorem rows_at (n : Nat) (L : List Rec) (k : Nat) (r : Rec) (h : L[k]? = some r) :
    (rows n L)[k * 2]? = some (.int .i64 ((n + at_ L k : Nat) : Int)) ∧ (rows n L)[k * 2 + 1]? = some (.string (ofL (bytes r))) := by
  induction L generalizing n k with
  | nil => cases h
  | cons x t ih =>
    cases k with
    | zero =>
      simp only [List.getElem?_cons_zero, Option.some.injEq] at h
      subst h
      exact ⟨rfl, rfl⟩
    | succ k =>
      simp only [List.getElem?_cons_succ] at h
      have := ih (n + (bytes x).length) k h
      rw [at_succ, show (k + 1) * 2 = k * 2 + 1 + 1 by omega]
      rw [show n + (bytes x).length + at_ t k = n + ((bytes x).length + at_ t k) by omega] at this
      exact this
theorem rows_snoc (n : Nat) (L : List Rec) (r : Rec) : rows n (L ++ [r]) = rows n L ++ [.int .i64 ((n + (flat L).length + 1 : Nat) : Int), .string (ofL (bytes r))] := by
  induction L generalizing n with
  | nil => rfl
  | cons x t ih =>
    simp only [List.cons_append, rows, ih, flat_cons, List.length_append]
    rw [show n + (bytes x).length + (flat t).length + 1 = n + ((bytes x).length + (flat t).length) + 1 by omega]
theorem at_next (L : List Rec) (k : Nat) (r : Rec) (h : L[k]? = some r) : at_ L (k + 1) = at_ L k + (bytes r).length := by
  unfold at_
  rw [List.take_add_one, h]
  simp only [Option.toList_some, flat_snoc, List.length_append]; omega
theorem at_full (L : List Rec) : at_ L L.length = (flat L).length + 1 := by unfold at_; rw [List.take_length]
theorem at_mono (L : List Rec) (k d : Nat) (h : k + d ≤ L.length) : at_ L k ≤ at_ L (k + d) := by
  induction d with
  | zero => exact Nat.le_refl _
  | succ d ih =>
    have := ih (by omega)
    have hx := at_next L (k + d) _ (List.getElem?_eq_getElem (show k + d < L.length by omega))
    rw [show k + (d + 1) = k + d + 1 by omega, hx]; omega
theorem at_le (L : List Rec) {k j : Nat} (h : k ≤ j) (hj : j ≤ L.length) : at_ L k ≤ at_ L j := by
  have := at_mono L k (j - k) (by omega)
  rwa [show k + (j - k) = j by omega] at this
theorem at_lt (L : List Rec) {k j : Nat} (h : k < j) (hj : j ≤ L.length) : at_ L k + 8 ≤ at_ L j := by
  have h1 := at_next L k _ (List.getElem?_eq_getElem (show k < L.length by omega))
  have h2 := bytes_pos (L[k]'(by omega))
  have h3 := at_le L (show k + 1 ≤ j by omega) hj
  omega
theorem at_end (L : List Rec) (k : Nat) (r : Rec) (h : L[k]? = some r) : at_ L k + (bytes r).length ≤ (flat L).length + 1 := by
  have hk : k < L.length := (List.getElem?_eq_some_iff.1 h).1
  rw [← at_next L k r h, ← at_full]
  exact at_le L hk (Nat.le_refl _)
theorem at_inj (L : List Rec) {k j : Nat} (hk : k < L.length) (hj : j < L.length) (h : at_ L k = at_ L j) : k = j := by
  rcases Nat.lt_trichotomy k j with h1 | h1 | h1
  · have := at_lt L h1 (by omega); omega
  · exact h1
  · have := at_lt L h1 (by omega); omega
theorem at_last (L : List Rec) (r : Rec) : at_ (L ++ [r]) L.length = (flat L).length + 1 := by unfold at_; rw [List.take_left]
theorem at_snoc (L : List Rec) (r : Rec) (k : Nat) (h : k ≤ L.length) : at_ (L ++ [r]) k = at_ L k := by unfold at_; rw [List.take_append_of_le_length h]
theorem small_bytes {r : Rec} (h : goodB r = true) : (bytes r).length ≤ 4271 ∧ 29 ≤ (bytes r).length := by
  have g := goods h
  have := size_small g
  have := body_size r g.pg
  have := bytes_len r
  have h29 : 29 ≤ sizeR r := by unfold sizeR; omega
  omega
/-- The bytes tell of these records, and of no more. -/
theorem splits (s : By) : ∃ L t, s = flat L ++ t ∧ (∀ r, r ∈ L → goodB r = true) ∧ readR t = none := by
  obtain ⟨n, hn⟩ : ∃ n, n = s.length := ⟨_, rfl⟩
  induction n using Nat.strongRecOn generalizing s with
  | _ n ih =>
    cases h : readR s with
    | none => exact ⟨[], s, rfl, fun _ h => (by cases h), h⟩
    | some q =>
      obtain ⟨r, m⟩ := q
      obtain ⟨hg, hm, hb, -⟩ := read_some h
      have hl := congrArg List.length hb
      rw [List.length_take] at hl
      have := bytes_pos r
      obtain ⟨L, t, h1, h2, h3⟩ := ih (s.drop m).length (by rw [List.length_drop]; omega) (s.drop m) rfl
      refine ⟨r :: L, t, ?_, ?_, h3⟩
      · rw [flat_cons, List.append_assoc, ← h1, hb]; exact (List.take_append_drop m s).symm
      · intro x hx
        rcases List.mem_cons.1 hx with rfl | hx
        · exact hg
        · exact h2 x hx
theorem split_unique (L M : List Rec) (s t : By) (h : flat L ++ s = flat M ++ t) (hL : ∀ r, r ∈ L → goodB r = true) (hM : ∀ r, r ∈ M → goodB r = true) (hs : readR s = none) (ht : readR t = none) : L = M ∧ s = t := by
  induction L generalizing M with
  | nil =>
    cases M with
    | nil => exact ⟨rfl, by simpa [flat] using h⟩
    | cons y M =>
      rw [show flat [] ++ s = s from rfl, flat_cons, List.append_assoc] at h
      rw [h, read_bytes y (hM y List.mem_cons_self)] at hs
      cases hs
  | cons x L ih =>
    cases M with
    | nil =>
      rw [show flat [] ++ t = t from rfl, flat_cons, List.append_assoc] at h
      rw [← h, read_bytes x (hL x List.mem_cons_self)] at ht
      cases ht
    | cons y M =>
      rw [flat_cons, flat_cons, List.append_assoc, List.append_assoc] at h
      have h1 := read_bytes x (hL x List.mem_cons_self) (flat L ++ s)
      rw [h, read_bytes y (hM y List.mem_cons_self)] at h1
      simp only [Option.some.injEq, Prod.mk.injEq] at h1
      obtain ⟨rfl, -⟩ := h1
      obtain ⟨rfl, h2⟩ := ih M (List.append_cancel_left h) (fun r hr => hL r (List.mem_cons_of_mem _ hr)) (fun r hr => hM r (List.mem_cons_of_mem _ hr))
      exact ⟨rfl, h2⟩
/-- A beginning of records tells of the first ones of them. -/
theorem split_take (L : List Rec) (k : Nat) (hL : ∀ r, r ∈ L → goodB r = true) :
    ∃ j t, j ≤ L.length ∧ (flat L).take k = flat (L.take j) ++ t ∧ readR t = none ∧ ∀ i, i ≤ L.length → (flat (L.take i)).length ≤ k → i ≤ j := by
  obtain ⟨M, t, h1, h2, h3⟩ := splits ((flat L).take k)
  have hpre : ∀ (L M : List Rec) (t u : By), flat L = flat M ++ t ++ u → (∀ r, r ∈ L → goodB r = true) → (∀ r, r ∈ M → goodB r = true) → ∃ j, j ≤ L.length ∧ M = L.take j := by
    intro L M
    induction M generalizing L with
    | nil => intro t u _ _ _; exact ⟨0, Nat.zero_le _, rfl⟩
    | cons y M ih =>
      intro t u h hL hM
      cases L with
      | nil =>
        have := congrArg List.length h
        simp [flat_cons, List.length_append] at this
        have := bytes_pos y
        simp [flat] at *; omega
      | cons x L =>
        have h1 := read_bytes x (hL x List.mem_cons_self) (flat L)
        rw [← flat_cons, h, flat_cons, List.append_assoc, List.append_assoc, read_bytes y (hM y List.mem_cons_self)] at h1
        simp only [Option.some.injEq, Prod.mk.injEq] at h1
        obtain ⟨rfl, -⟩ := h1
        rw [flat_cons, flat_cons, List.append_assoc, List.append_assoc] at h
        obtain ⟨j, hj, rfl⟩ := ih L t u (by rw [List.append_assoc]; exact List.append_cancel_left h) (fun r hr => hL r (List.mem_cons_of_mem _ hr)) (fun r hr => hM r (List.mem_cons_of_mem _ hr))
        exact ⟨j + 1, by simp; omega, rfl⟩
  obtain ⟨j, hj, rfl⟩ := hpre L M t ((flat L).drop k) (by rw [← h1, List.take_append_drop]) hL h2
  refine ⟨j, t, hj, h1, h3, fun i hi hk => ?_⟩
  rcases Nat.lt_or_ge j i with hlt | hle
  · exfalso
    -- the (j+1)-th record is there whole
    have hx : L[j]? = some (L[j]'(by omega)) := List.getElem?_eq_getElem _
    have e1 : flat (L.take (j + 1)) = flat (L.take j) ++ bytes (L[j]'(by omega)) := by rw [List.take_add_one, hx]; simp only [Option.toList_some, flat_snoc]
    have hlen := at_le L (show j + 1 ≤ i by omega) hi
    unfold at_ at hlen
    have e2 : flat L = flat (L.take (j + 1)) ++ flat (L.drop (j + 1)) := by rw [← flat_app, List.take_append_drop]
    have e3 : (flat L).take k = flat (L.take (j + 1)) ++ (flat (L.drop (j + 1))).take (k - (flat (L.take (j + 1))).length) := by
      rw [e2, List.take_append, List.take_of_length_le (by omega)]
    rw [h1, e1, List.append_assoc] at e3
    have e4 := List.append_cancel_left e3
    rw [e4, read_bytes _ (hL _ (List.getElem_mem _))] at h3
    cases h3
  · exact hle
end Go.Proofs.YtapdpdhibpblgaaGreatDoor.Nt
end

-- joined
section
namespace Go.Proofs.YtapdpdhibpblgaaGreatDoor.Mn
open Go.ChangeShapes Go.WideShapes Go.ChangeAt Go.RowKit Go.PlainAid Aid
set_option linter.unusedVariables false
set_option linter.unusedSimpArgs false

/-- Power's state. -/
structure Pw where
  on : Bool
  fuse : Int
  boots : Int
def Pw.off (p : Pw) : Pw := { p with on := false }
def Pw.lay (p : Pw) (n : Int) : Pw := { p with fuse := n }
def Pw.come (p : Pw) : Pw := if p.on then p else ⟨true, -1, wrap64 (p.boots + 1)⟩
def Pw.use (p : Pw) : Pw := if p.fuse = 0 then p.off else if p.on = false then p else if 0 < p.fuse then { p with fuse := p.fuse - 1 } else p
def Pw.ans (p : Pw) : Int := if p.fuse = 0 then 4 else if p.on = false then 4 else 0
def Pw.ok (p : Pw) : Prop := -9223372036854775808 ≤ p.fuse ∧ p.fuse ≤ 9223372036854775807 ∧ -9223372036854775808 ≤ p.boots ∧ p.boots ≤ 9223372036854775807
def Pw.row (p : Pw) : Array Value := #[.bool p.on, .int .i64 p.fuse, .int .i64 p.boots]
/-- Power that lies in block g. -/
def Mn (w : World) (g : Nat) (p : Pw) : Prop := Blk w g 131 p.row ∧ p.ok
theorem Mn.keep {S : Nat → Prop} {w w' : World} {g : Nat} {p : Pw} (h : Mn w g p) (hb : Chg S w w') (hs : ¬ S g) : Mn w' g p := ⟨h.1.keep hb hs, h.2⟩
theorem Mn.drewN {w : World} {g : Nat} {p : Pw} (h : Mn w g p) (n : Nat) : Mn (w.drewN n) g p := h
theorem Mn.lt {w : World} {g : Nat} {p : Pw} (h : Mn w g p) : g < w.heap.size := h.1.lt
theorem wrap64_bd (n : Int) : -9223372036854775808 ≤ wrap64 n ∧ wrap64 n ≤ 9223372036854775807 := by unfold wrap64; omega

set_option maxHeartbeats 400000 in
theorem New_any (w : World) :
    Calls Tryz.prog 23 #[] w fun e w' => e = .returned (.pointer (some ⟨w.heap.size, 0, none⟩)) ∧ Mn w' w.heap.size ⟨true, -1, 1⟩ ∧ Below w.heap.size w w' := by
  go_enter Tryz.func23, Tryz.ntmps23
  go_wp2_with fail
  go_returns
  refine ⟨rfl, ⟨Blk.new _ _ _, by unfold Pw.ok; decide⟩, ?_⟩
  go_grown

theorem Mn.facts {w : World} {g : Nat} {p : Pw} (h : Mn w g p) : w.cell? ⟨g, 0, none⟩ = some (.bool p.on) ∧ w.cell? ⟨g, 1, none⟩ = some (.int .i64 p.fuse) ∧ w.cell? ⟨g, 2, none⟩ = some (.int .i64 p.boots) ∧ w.frozen? ⟨g, 0, none⟩ = false ∧ w.frozen? ⟨g, 1, none⟩ = false ∧ w.frozen? ⟨g, 2, none⟩ = false :=
  ⟨h.1.cell 0, h.1.cell 1, h.1.cell 2, h.1.free 0, h.1.free 1, h.1.free 2⟩

set_option maxHeartbeats 400000 in
theorem IsOn_any (g : Nat) (p : Pw) (w : World) (h : Mn w g p) :
    Calls Tryz.prog 90 #[.pointer (some ⟨g, 0, none⟩)] w fun e w' => e = .returned (.bool p.on) ∧ w = w' := by
  obtain ⟨c0, c1, c2, f0, f1, f2⟩ := h.facts
  have H := Lib.hid h
  clear h
  go_enter Tryz.func90, Tryz.ntmps90
  go_wp2_with fail
  go_returns
  exact ⟨rfl, rfl⟩
set_option maxHeartbeats 400000 in
theorem Use_any (g : Nat) (p : Pw) (w : World) (h : Mn w g p) :
    Calls Tryz.prog 69 #[.pointer (some ⟨g, 0, none⟩)] w fun e w' => e = .returned (.int .i64 p.ans) ∧ Mn w' g p.use ∧ Chg (· = g) w w' := by
  obtain ⟨c0, c1, c2, f0, f1, f2⟩ := h.facts
  have H := Lib.hid h
  have hk := h.2
  obtain ⟨o, f, b⟩ := p
  simp only [Pw.ok] at c0 c1 c2 hk
  obtain ⟨k0, k1, -, -⟩ := hk
  clear h
  by_cases hf : f = 0
  · subst hf
    go_enter Tryz.func69, Tryz.ntmps69
    go_wp2_with fail
    go_returns
    exact ⟨rfl, ⟨H.out.1.set 0 _, H.out.2⟩, (Chg.refl _ _).set1 _ _⟩
  · have hd : (f == 0) = false := beq_eq_false_iff_ne.2 hf
    cases o
    · have e1 : (Pw.mk false f b).ans = 4 := by simp [Pw.ans, hf]
      have e2 : (Pw.mk false f b).use = ⟨false, f, b⟩ := by simp [Pw.use, hf]
      rw [e1, e2]
      clear e1 e2 hf
      go_enter Tryz.func69, Tryz.ntmps69
      go_wp2_with fail
      go_returns
      exact ⟨rfl, H.out, Chg.refl _ _⟩
    · have e1 : (Pw.mk true f b).ans = 0 := by simp [Pw.ans, hf]
      rw [e1]
      by_cases hp : 0 < f
      · have e2 : (Pw.mk true f b).use = ⟨true, f - 1, b⟩ := by simp [Pw.use, hf, hp]
        rw [e2]
        have ho := H.out.2
        have e : Array.setIfInBounds (Pw.mk true f b).row 1 (.int .i64 (f - 1)) = (Pw.mk true (f - 1) b).row := rfl
        have HE := Lib.hid e
        have HO := Lib.hid ho
        clear e1 e2 hf e ho
        go_enter Tryz.func69, Tryz.ntmps69
        go_wp2_with fail
        go_returns
        exact ⟨rfl, ⟨H.out.1.set 1 _, by show _ ≤ f - 1; omega, by show f - 1 ≤ _; omega, HO.out.2.2.1, HO.out.2.2.2⟩, (Chg.refl _ _).set1 _ _⟩
      · have e2 : (Pw.mk true f b).use = ⟨true, f, b⟩ := by simp [Pw.use, hf, hp]
        rw [e2]
        have hq : decide (0 < f) = false := by simpa using hp
        clear e1 e2 hf hp
        go_enter Tryz.func69, Tryz.ntmps69
        go_wp2_with fail
        go_returns
        exact ⟨rfl, H.out, Chg.refl _ _⟩

theorem Use_as (g : Nat) (p : Pw) (w : World) (h : Mn w g p) (a : Int) (p' : Pw) (ha : p.ans = a) (hp : p.use = p') :
    Calls Tryz.prog 69 #[.pointer (some ⟨g, 0, none⟩)] w fun e w' => e = .returned (.int .i64 a) ∧ Mn w' g p' ∧ Chg (· = g) w w' := by
  subst ha; subst hp; exact Use_any g p w h
/-! Of nil. -/
theorem Use_nil (w : World) : Calls Tryz.prog 69 #[.pointer none] w fun e w' => e = .returned (.int .i64 2) ∧ w = w' := by
  go_enter Tryz.func69, Tryz.ntmps69
  go_wp2_with fail
  go_returns
  exact ⟨rfl, rfl⟩
theorem IsOn_nil (w : World) : Calls Tryz.prog 90 #[.pointer none] w fun e w' => e = .returned (.bool false) ∧ w = w' := by
  go_enter Tryz.func90, Tryz.ntmps90
  go_wp2_with fail
  go_returns
  exact ⟨rfl, rfl⟩
end Go.Proofs.YtapdpdhibpblgaaGreatDoor.Mn
end

-- joined
section
namespace Go.Proofs.YtapdpdhibpblgaaGreatDoor.Rl
open Go.ChangeShapes Go.WideShapes Go.ChangeAt Go.RowKit Go.PlainAid Aid Mn
set_option linter.unusedVariables false
set_option linter.unusedSimpArgs false

def rlRow (m size : Nat) (v : Value) (safe : Nat) : Array Value := #[.pointer (some ⟨m, 0, none⟩), .int .i64 size, v, .int .i64 safe]
/-- Bytes that lie in the blocks of O, the head in block g, on the power in block m. -/
structure Rl (w : World) (g m : Nat) (O : Nat → Prop) (size : Nat) (s : ByteArray) (safe : Nat) : Prop where
  ex : ∃ v, Blk w g 140 (rlRow m size v safe) ∧ Vec w 5 1 v s.size (byteCells s) ∧ (∀ k, VB v k → k ≠ g ∧ k ≠ m) ∧ O = fun k => k = g ∨ VB v k
  small : size ≤ 262144
  fits : s.size ≤ size
  safe : safe ≤ s.size
  gm : g ≠ m
section
variable {w w' : World} {g m size safe : Nat} {O S : Nat → Prop} {s : ByteArray}
theorem Rl.keep (h : Rl w g m O size s safe) (hb : Chg S w w') (hS : ∀ k, O k → ¬ S k) : Rl w' g m O size s safe := by
  obtain ⟨v, h1, h2, h3, rfl⟩ := h.ex
  exact ⟨⟨v, h1.keep hb (hS _ (Or.inl rfl)), h2.keep hb (fun k hk => hS _ (Or.inr hk)), h3, rfl⟩, h.small, h.fits, h.safe, h.gm⟩
theorem Rl.keepB (h : Rl w g m O size s safe) (hb : Below w.heap.size w w') : Rl w' g m O size s safe := h.keep (S := fun _ => False) (Chg.of_below hb) (fun _ _ => id)
theorem Rl.lt (h : Rl w g m O size s safe) {k : Nat} (hk : O k) : k < w.heap.size := by
  obtain ⟨v, h1, h2, h3, rfl⟩ := h.ex
  rcases hk with rfl | hk
  · exact h1.lt
  · exact h2.lt hk
theorem Rl.head (h : Rl w g m O size s safe) : O g := by
  obtain ⟨v, h1, h2, h3, rfl⟩ := h.ex
  exact Or.inl rfl
theorem Rl.notm (h : Rl w g m O size s safe) : ¬ O m := by
  obtain ⟨v, h1, h2, h3, rfl⟩ := h.ex
  rintro (e | e)
  · exact h.gm e.symm
  · exact (h3 _ e).2 rfl
theorem Rl.pow (h : Rl w g m O size s safe) (hb : Chg (· = m) w w') : Rl w' g m O size s safe := h.keep hb (fun k hk e => h.notm (e ▸ hk))
end
theorem rl_cells {w : World} {g m size safe : Nat} {v : Value} (h : Blk w g 140 (rlRow m size v safe)) :
    w.cell? ⟨g, 0, none⟩ = some (.pointer (some ⟨m, 0, none⟩)) ∧ w.cell? ⟨g, 1, none⟩ = some (.int .i64 size) ∧ w.cell? ⟨g, 2, none⟩ = some v ∧ w.cell? ⟨g, 3, none⟩ = some (.int .i64 safe) ∧ w.frozen? ⟨g, 2, none⟩ = false ∧ w.frozen? ⟨g, 3, none⟩ = false :=
  ⟨h.cell 0, h.cell 1, h.cell 2, h.cell 3, h.free 2, h.free 3⟩
theorem u8Info : (Tryz.prog.info? 5).map (fun i => (i.zero, i.size, i.bytes)) = some (some (.int .u8 0), 1, 1) := by kernel_rfl

/-- The nearest room. -/
def nearR (n : Int) : Nat := (min (max n 0) 262144).toNat
theorem nearR_le (n : Int) : nearR n ≤ 262144 := by unfold nearR; omega
set_option maxHeartbeats 400000 in
theorem New_any (m : Nat) (n : Int) (w : World) (hm : m < w.heap.size) :
    Calls Tryz.prog 26 #[.pointer (some ⟨m, 0, none⟩), .int .i64 n] w fun e w' => e = .returned (.pointer (some ⟨w.heap.size, 0, none⟩)) ∧ (∃ O, Rl w' w.heap.size m O (nearR n) ⟨#[]⟩ 0 ∧ Fresh w (fun _ => False) O) ∧ Below w.heap.size w w' := by
  have hn := nearR_le n
  have e0 : (nearR n : Int) = if n < 0 then 0 else if 262144 < n then 262144 else n := by unfold nearR; split <;> (try split) <;> omega
  have key : ∀ (x : Int), x = (nearR n : Int) → ∃ O, Rl (w.alloc (.cells #[.pointer (some ⟨m, 0, none⟩), .int .i64 x, .slice none 0 0, .int .i64 0] 140)) w.heap.size m O (nearR n) ⟨#[]⟩ 0 ∧ Fresh w (fun _ => False) O := by
    rintro x rfl
    refine ⟨_, ⟨⟨.slice none 0 0, Blk.new _ _ _, Vec.nil _ _ _, (fun k hk => by cases hk), rfl⟩, hn, Nat.zero_le _, Nat.zero_le _, by omega⟩, ?_⟩
    rintro j (rfl | h)
    · exact Or.inr (Nat.le_refl _)
    · cases h
  have KEY := Lib.hid key
  have E0 := Lib.hid e0
  clear key hn e0
  go_enter Tryz.func26, Tryz.ntmps26
  go_wp2_with fail
  all_goals
    go_returns
    exact ⟨rfl, KEY.out _ (by rw [E0.out]; split <;> (try split) <;> omega), blA (Below.refl _ _) _⟩

set_option maxHeartbeats 400000 in
theorem Len_any (g m : Nat) (O : Nat → Prop) (size : Nat) (s : ByteArray) (safe : Nat) (w : World) (h : Rl w g m O size s safe) :
    Calls Tryz.prog 31 #[.pointer (some ⟨g, 0, none⟩)] w fun e w' => e = .returned (.int .i64 s.size) ∧ w = w' := by
  obtain ⟨v, h1, h2, h3, rfl⟩ := h.ex
  obtain ⟨c0, c1, c2, c3, f2, f3⟩ := rl_cells h1
  have hf := h2.forms
  clear h h1 h2 h3
  rcases hf with ⟨rfl, hz⟩ | ⟨b, cap, rfl, hb, hc, hm⟩
  · rw [hz]
    clear hz
    go_enter Tryz.func31, Tryz.ntmps31
    go_wp2_with fail
    go_returns
    exact ⟨rfl, rfl⟩
  · go_enter Tryz.func31, Tryz.ntmps31
    go_wp2_with fail
    go_returns
    exact ⟨rfl, rfl⟩
set_option maxHeartbeats 400000 in
theorem Safe_any (g m : Nat) (O : Nat → Prop) (size : Nat) (s : ByteArray) (safe : Nat) (w : World) (h : Rl w g m O size s safe) :
    Calls Tryz.prog 95 #[.pointer (some ⟨g, 0, none⟩)] w fun e w' => e = .returned (.int .i64 safe) ∧ w = w' := by
  obtain ⟨v, h1, h2, h3, rfl⟩ := h.ex
  obtain ⟨c0, c1, c2, c3, f2, f3⟩ := rl_cells h1
  clear h h1 h2 h3
  go_enter Tryz.func95, Tryz.ntmps95
  go_wp2_with fail
  go_returns
  exact ⟨rfl, rfl⟩
set_option maxHeartbeats 400000 in
theorem Left_any (g m : Nat) (O : Nat → Prop) (size : Nat) (s : ByteArray) (safe : Nat) (w : World) (h : Rl w g m O size s safe) :
    Calls Tryz.prog 67 #[.pointer (some ⟨g, 0, none⟩)] w fun e w' => e = .returned (.int .i64 ((size : Int) - (s.size : Int))) ∧ ∃ k, w' = w.drewN k := by
  obtain ⟨v, h1, h2, h3, rfl⟩ := h.ex
  obtain ⟨c0, c1, c2, c3, f2, f3⟩ := rl_cells h1
  have hf := h2.forms
  have k1 := h.small
  have k2 := h.fits
  clear h h1 h2 h3
  rcases hf with ⟨rfl, hz⟩ | ⟨b, cap, rfl, hb, hc, hm⟩
  · rw [hz]
    clear hz k2
    go_enter Tryz.func67, Tryz.ntmps67
    go_wp2_with fail
    go_quiet (fail)
    go_wp2_with fail
    go_returns
    exact ⟨by simp, _, rfl⟩
  · go_enter Tryz.func67, Tryz.ntmps67
    go_wp2_with fail
    go_quiet (fail)
    go_wp2_with fail
    go_returns
    exact ⟨rfl, _, rfl⟩
def readV (q : Pw) (s : ByteArray) : Value := if q.on then .tuple #[.string s, .int .i64 0] else .tuple #[.string ⟨#[]⟩, .int .i64 4]
set_option maxRecDepth 100000 in
set_option maxHeartbeats 400000 in
theorem Read_any (g m : Nat) (O : Nat → Prop) (size : Nat) (s : ByteArray) (safe : Nat) (q : Pw) (w : World) (h : Rl w g m O size s safe) (hm : Mn w m q) :
    Calls Tryz.prog 57 #[.pointer (some ⟨g, 0, none⟩)] w fun e w' => e = .returned (readV q s) ∧ w = w' := by
  obtain ⟨v, h1, h2, h3, rfl⟩ := h.ex
  obtain ⟨c0, c1, c2, c3, f2, f3⟩ := rl_cells h1
  have hcv := h2.conv (P := Tryz.prog) Tryz.underlying138 Tryz.underlying5 Tryz.underlying9
  have hf := h2.forms
  have ho := Lib.hid (IsOn_any m q w hm)
  unfold readV
  clear h h1 h2 h3 hm
  cases hq : q.on <;> rw [hq] at ho
  · clear hq hcv hf
    go_enter Tryz.func57, Tryz.ntmps57
    go_wp2_with fail
    refine ho.out.mono ?_
    rintro e w' ⟨rfl, rfl⟩
    go_wp2_with fail
    go_returns
    exact ⟨rfl, rfl⟩
  · clear hq
    go_enter Tryz.func57, Tryz.ntmps57
    go_wp2_with fail
    refine ho.out.mono ?_
    rintro e w' ⟨rfl, rfl⟩
    rcases hf with ⟨rfl, hz⟩ | ⟨b, cap, rfl, hb, hc, hm⟩
    · go_wp2_with fail
      go_returns
      exact ⟨rfl, rfl⟩
    · go_wp2_with fail
      go_returns
      exact ⟨rfl, rfl⟩
set_option maxHeartbeats 400000 in
theorem cut_any (g m : Nat) (O : Nat → Prop) (size : Nat) (s : ByteArray) (safe n : Nat) (w : World) (h : Rl w g m O size s safe) (hn : n ≤ s.size) :
    Calls Tryz.prog 97 #[.pointer (some ⟨g, 0, none⟩), .int .i64 n] w fun e w' => e = .returned (.tuple #[]) ∧ Rl w' g m O size (s.extract 0 n) n ∧ Chg (· = g) w w' := by
  obtain ⟨v, h1, h2, h3, rfl⟩ := h.ex
  obtain ⟨c0, c1, c2, c3, f2, f3⟩ := rl_cells h1
  have hz : (s.extract 0 n).size = n := by simp; omega
  rcases h2.forms with ⟨rfl, hz0⟩ | ⟨b, cap, rfl, hb, hc, hm⟩
  · obtain rfl : n = 0 := by omega
    have HH := Lib.hid h
    have H1 := Lib.hid h1
    have HZ := Lib.hid hz
    have HZ0 := Lib.hid hz0
    clear h h1 h2 h3 hn hz hz0
    go_enter Tryz.func97, Tryz.ntmps97
    go_wp2_with fail
    go_returns
    refine ⟨rfl, ⟨⟨.slice none 0 0, (H1.out.set 2 _).set 3 _, ?_, (fun k hk => by cases hk), rfl⟩, HH.out.small, by have := HZ.out; omega, by have := HZ.out; omega, HH.out.gm⟩, ((Chg.refl _ _).set1 _ _).set1 _ _⟩
    rw [HZ.out, show byteCells (s.extract 0 0) = [] from List.eq_nil_of_length_eq_zero (by rw [byteCells_length]; exact HZ.out)]
    exact Vec.nil _ _ _
  · have HH := Lib.hid h
    have H1 := Lib.hid h1
    have H2 := Lib.hid h2
    have H3 := Lib.hid h3
    have HZ := Lib.hid hz
    have hnc : n ≤ cap := by omega
    unfold maxLen at hm
    clear h h1 h2 h3 hz
    go_enter Tryz.func97, Tryz.ntmps97
    go_wp2_with fail
    go_returns
    have e1 := H2.out.cut hn
    rw [Nat.mul_one, byteCells_take] at e1
    have hbg := (H3.out b rfl).1
    refine ⟨rfl, ⟨⟨.slice (some ⟨b, 0, none⟩) n cap, (H1.out.set 2 _).set 3 _, ?_, H3.out, rfl⟩, HH.out.small, by have := HH.out.fits; have := HZ.out; omega, by have := HZ.out; omega, HH.out.gm⟩, ((Chg.refl _ _).set1 _ _).set1 _ _⟩
    rw [HZ.out]
    refine Vec.other (Vec.other e1 ?_ _) ?_ _ <;> (rintro k hk; cases hk; exact hbg)

set_option maxHeartbeats 400000 in
theorem Append_full (g m : Nat) (O : Nat → Prop) (size : Nat) (s : ByteArray) (safe : Nat) (x : ByteArray) (w : World) (h : Rl w g m O size s safe) (hx : (size : Int) - s.size < x.size) :
    Calls Tryz.prog 32 #[.pointer (some ⟨g, 0, none⟩), .string x] w fun e w' => e = .returned (.int .i64 5) ∧ ∃ k, w' = w.drewN k := by
  have HL := Lib.hid (Left_any _ _ _ _ _ _ _ h)
  have k1 := h.small
  have k2 := h.fits
  clear h
  go_enter Tryz.func32, Tryz.ntmps32
  go_wp2_with fail
  refine HL.out.mono ?_
  rintro e w' ⟨rfl, k, rfl⟩
  go_wp2_with fail
  go_returns
  exact ⟨rfl, _, rfl⟩
set_option maxHeartbeats 400000 in
theorem Append_down (g m : Nat) (O : Nat → Prop) (size : Nat) (s : ByteArray) (safe : Nat) (q : Pw) (x : ByteArray) (w : World) (h : Rl w g m O size s safe) (hm : Mn w m q) (hx : (x.size : Int) ≤ (size : Int) - s.size) (hq : q.ans = 4) :
    Calls Tryz.prog 32 #[.pointer (some ⟨g, 0, none⟩), .string x] w fun e w' => e = .returned (.int .i64 4) ∧ Mn w' m q.use ∧ Chg (· = m) w w' := by
  have HL := Lib.hid (Left_any _ _ _ _ _ _ _ h)
  have k1 := h.small
  have k2 := h.fits
  have HU := Lib.hid (fun n => Use_as m q _ (hm.drewN n) 4 _ hq rfl)
  obtain ⟨v, h1, h2, h3, rfl⟩ := h.ex
  obtain ⟨c0, -, -, -, -, -⟩ := rl_cells h1
  clear h h1 h2 h3 hm hq
  go_enter Tryz.func32, Tryz.ntmps32
  go_wp2_with fail
  refine HL.out.mono ?_
  rintro e w' ⟨rfl, k, rfl⟩
  go_wp2_with fail
  refine (HU.out k).mono ?_
  rintro e w1 ⟨rfl, hm1, hb1⟩
  go_wp2_with fail
  go_returns
  exact ⟨rfl, hm1, ((Chg.refl _ _).drewN k).trans hb1 (fun _ _ e => e)⟩
def MO (m : Nat) (O : Nat → Prop) : Nat → Prop := fun k => k = m ∨ O k
set_option maxHeartbeats 400000 in
theorem Append_ok (g m : Nat) (O : Nat → Prop) (size : Nat) (s : ByteArray) (safe : Nat) (q : Pw) (x : ByteArray) (w : World) (h : Rl w g m O size s safe) (hm : Mn w m q) (hx : (x.size : Int) ≤ (size : Int) - s.size) (hq : q.ans = 0) :
    Calls Tryz.prog 32 #[.pointer (some ⟨g, 0, none⟩), .string x] w fun e w' => e = .returned (.int .i64 0) ∧ (∃ O', Rl w' g m O' size (s ++ x) safe ∧ Fresh w O O') ∧ Mn w' m q.use ∧ Chg (MO m O) w w' := by
  have HL := Lib.hid (Left_any _ _ _ _ _ _ _ h)
  have k1 := h.small
  have k2 := h.fits
  have HU := Lib.hid (fun n => Use_as m q _ (hm.drewN n) 0 _ hq rfl)
  have H := Lib.hid h
  obtain ⟨v, h1, h2, h3, rfl⟩ := h.ex
  obtain ⟨c0, -, c2, -, -, -⟩ := rl_cells h1
  have H1 := Lib.hid h1
  have H2 := Lib.hid h2
  have H3 := Lib.hid h3
  have HM := Lib.hid hm.lt
  have hs0 := h.safe
  clear h h1 h2 h3 hm hq
  go_enter Tryz.func32, Tryz.ntmps32
  go_wp2_with fail
  refine HL.out.mono ?_
  rintro e w' ⟨rfl, k, rfl⟩
  go_wp2_with fail
  refine (HU.out k).mono ?_
  rintro e w1 ⟨rfl, hm1, hb1⟩
  have hb2 : Chg (· = m) w w1 := ((Chg.refl _ _).drewN k).trans hb1 (fun _ _ e => e)
  have N1 := Lib.hid (H1.out.keep hb2 H.out.gm)
  have N2 := Lib.hid (H2.out.keep hb2 (fun k hk e => (H3.out k hk).2 e))
  obtain ⟨c0, c1, c2, c3, f2, f3⟩ := rl_cells N1.out
  have B2 := Lib.hid hb2
  have M1 := Lib.hid hm1
  have HV := Lib.hid (fun k => Vec.lt (k := k) N2.out)
  clear hb1 hb2 hm1 HU HL
  go_wp2_with (with_reducible refine wpList_append_vec rfl (.tmp 25) (.tmp 26) 138 9 rfl 5 (.int .u8 0) 1 1 Tryz.underlying138 u8Info ?c1 ?c2 v s.size (byteCells s) ?c7 N2.out (.string x) ?c8 x.size (byteCells x) (Src.ofString _ Tryz.underlying9 x) ?c3 ?c4 ?_)
  case c1 => rfl
  case c2 => decide
  case c3 => unfold maxLen; omega
  case c4 => omega
  case c7 => rfl
  case c8 => rfl
  intro v' w2 hv hc hf
  have gv : ¬ VB v g := fun e => (H3.out g e).1 rfl
  have N3 := Lib.hid (N1.out.keep hc gv)
  obtain ⟨c0, c1, c2, c3, f2, f3⟩ := rl_cells N3.out
  have V3 := Lib.hid hv
  have C3 := Lib.hid hc
  have F3 := Lib.hid hf
  obtain ⟨A', c', rfl⟩ := hv.slice
  clear hv hc hf gv
  go_wp2_with fail
  go_returns
  have g1 : ∀ k, VB (.slice A' (s.size + x.size) c') k → k ≠ g ∧ k ≠ m := fun k hk => by
    rcases F3.out k hk with h | h
    · exact H3.out k h
    · have := B2.out.size; have := N1.out.lt; have := M1.out.lt; omega
  have hsz : (s ++ x).size = s.size + x.size := by simp
  refine ⟨rfl, ⟨_, ⟨⟨_, N3.out.set 2 _, ?_, g1, rfl⟩, H.out.small, by omega, by omega, H.out.gm⟩, ?_⟩, (M1.out.keep C3.out (fun e => (H3.out m e).2 rfl)).keep ((Chg.refl (· = g) _).set1 _ _) (fun e => H.out.gm e.symm), ?_⟩
  · rw [hsz, byteCells_cat]
    exact V3.out.other (fun k hk => (g1 k hk).1) _
  · rintro k (rfl | hk)
    · exact Or.inl (Or.inl rfl)
    · rcases F3.out k hk with h | h
      · exact Or.inl (Or.inr h)
      · exact Or.inr (by have := B2.out.size; omega)
  · refine ((B2.out.mono (T := MO m _) (fun _ _ e => Or.inl e)).trans (C3.out.mono (T := MO m (fun k => k = g ∨ VB v k)) (fun _ _ e => Or.inr (Or.inr e))) (fun _ _ e => e)).setCell ?_ _
    exact fun _ => Or.inr (Or.inl rfl)
end Go.Proofs.YtapdpdhibpblgaaGreatDoor.Rl
end
