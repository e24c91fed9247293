/- A row of transactions that wait for one name: plain. -/
import Derived.Test.YtikdjgholjealaaDoorLkAw
namespace Go.Proofs.YtikdjgholjealaaDoor.Lk
open Go.ChangeShapes Go.WideShapes Go.ChangeAt Go.RowKit Go.PlainAid Aid Md
set_option linter.unusedVariables false
set_option linter.unusedSimpArgs false
abbrev na : By := [97]
def up (a : Int) : Nat → List Int
  | 0 => []
  | n + 1 => a :: up (a + 1) n
def wd (a : Int) : Nat → List Wan
  | 0 => []
  | n + 1 => (a + n, na, 5) :: wd a n
theorem up_mem (a : Int) (n : Nat) (o : Int) : o ∈ up a n ↔ a ≤ o ∧ o < a + n := by
  induction n generalizing a with
  | zero => simp [up] <;> omega
  | succ n ih =>
    unfold up
    rw [List.mem_cons, ih]
    omega
theorem up_len (a : Int) (n : Nat) : (up a n).length = n := by
  induction n generalizing a with
  | zero => rfl
  | succ n ih => unfold up; rw [List.length_cons, ih]
theorem up_snoc (a : Int) (n : Nat) : up a n ++ [a + n] = up a (n + 1) := by
  induction n generalizing a with
  | zero => simp [up]
  | succ n ih =>
    show a :: (up (a + 1) n ++ [a + (n + 1 : Nat)]) = a :: up (a + 1) (n + 1)
    rw [← ih (a + 1)]
    have : a + ((n + 1 : Nat) : Int) = a + 1 + n := by omega
    rw [this]
theorem wd_len (a : Int) (n : Nat) : (wd a n).length = n := by
  induction n with
  | zero => rfl
  | succ n ih => unfold wd; rw [List.length_cons, ih]
theorem wanL_wd (a : Int) (n : Nat) (o : Int) : wanL (wd a n) o = if a ≤ o ∧ o < a + n then some (o, na, 5) else none := by
  induction n with
  | zero => rw [if_neg (by omega)]; rfl
  | succ n ih =>
    have h : wanL (wd a (n + 1)) o = if a + n = o then some (a + n, na, 5) else wanL (wd a n) o := find_cons (fun x : Wan => x.1) _ _ _
    rw [h, ih]
    by_cases e : a + n = o
    · subst e
      rw [if_pos rfl, if_pos (by omega)]
    · rw [if_neg e]
      by_cases e2 : a ≤ o ∧ o < a + n
      · rw [if_pos e2, if_pos (by omega)]
      · rw [if_neg e2, if_neg (by omega)]
theorem offW_not {W : List Wan} {o : Int} (h : wanL W o = none) : offW W o = W := by
  unfold offW
  refine List.filter_eq_self.2 fun x hx => ?_
  have := List.find?_eq_none.1 h x hx
  simpa using this
theorem offW_wd (a : Int) (n : Nat) : offW (wd a (n + 1)) a = wd (a + 1) n := by
  induction n with
  | zero => simp [wd, offW]
  | succ n ih =>
    have e : wd a (n + 1 + 1) = (a + ((n + 1 : Nat) : Int), na, 5) :: wd a (n + 1) := rfl
    have e2 : wd (a + 1) (n + 1) = (a + 1 + n, na, 5) :: wd (a + 1) n := rfl
    rw [e, e2, ← ih]
    unfold offW
    rw [List.filter_cons, if_pos (by simp; omega)]
    have : a + ((n + 1 : Nat) : Int) = a + 1 + n := by omega
    rw [this]
theorem goes55 : goesZ 5 5 = false := by decide +kernel
theorem nxN_none {f : Int → List Int → Bool} : ∀ (l pre : List Int), (∀ o, o ∈ l → ∀ pre, f o pre = false) → nxN f pre l = none
  | [], _, _ => rfl
  | a :: l, pre, h => by
    unfold nxN
    rw [h a List.mem_cons_self pre]
    exact nxN_none l _ fun o ho => h o (List.mem_cons_of_mem _ ho)
/-- The one has it, and so many wait. -/
def St (i : Int) (j : Nat) (H : List Hol) (L : List Lin) (W : List Wan) : Prop :=
  (∃ nb, H = [(na, nb, [(i, 5)])]) ∧ (∃ v, L = if j = 0 then [] else [(na, v, up (i + 1) j)]) ∧ W = wd (i + 1) j
theorem St.ids {i : Int} {j : Nat} {H : List Hol} {L : List Lin} {W : List Wan} (h : St i j H L W) : ids L na = up (i + 1) j := by
  obtain ⟨-, ⟨v, rfl⟩, -⟩ := h
  by_cases hj : j = 0
  · subst hj; rfl
  · rw [if_neg hj]; rfl
theorem St.offL {i : Int} {j : Nat} {H : List Hol} {L : List Lin} {W : List Wan} (h : St i j H L W) : offL L na = [] := by
  obtain ⟨-, ⟨v, rfl⟩, -⟩ := h
  by_cases hj : j = 0
  · subst hj; rfl
  · rw [if_neg hj]; rfl
theorem St.cnt {i : Int} {j : Nat} {H : List Hol} {L : List Lin} {W : List Wan} (h : St i j H L W) : cnt H W = j + 1 := by
  obtain ⟨⟨nb, rfl⟩, -, rfl⟩ := h
  show (wd (i + 1) j).length + 1 = _
  rw [wd_len]
theorem row_blk {nb : Nat} {i o : Int} (W : List Wan) (pre : List Int) (h : o ≠ i) : blkL [(na, nb, [(i, 5)])] W o na 5 pre ≠ [] := by
  unfold blkL
  have e : blkH (holE [(na, nb, [(i, 5)])] na) o 5 = [i] := by
    show List.map Prod.fst (List.filter _ [(i, 5)]) = _
    rw [List.filter_cons, goes55, decide_eq_false (fun e : i = o => h e.symm)]
    rfl
  rw [e]
  simp
theorem row_ask0 {c : Int} {H' : List Hol} {L' : List Lin} {W' : List Wan} (t : AskT [] [] [] 0 na 5 c H' L' W') : c = 0 ∧ St 0 0 H' L' W' := by
  have e : joinedZ (md [] 0 na) 5 = 5 := by decide +kernel
  cases t with
  | arg h => rw [e] at h; rcases h with h | h <;> cases h
  | same hw hj hs => rw [e] at hs; cases hs
  | full hw hj hm hc => cases hc
  | busy hw hj hs hm hf v => exact absurd rfl hf
  | hold hw hj hs hm hf nb => rw [e]; exact ⟨rfl, ⟨nb, rfl⟩, ⟨.int .i64 0, rfl⟩, rfl⟩
theorem row_ask {j : Nat} {c : Int} {H H' : List Hol} {L L' : List Lin} {W W' : List Wan} (h : St 0 j H L W) (hj2 : j ≤ 100) (t : AskT H L W ((j : Int) + 1) na 5 c H' L' W') : c = 11 ∧ St 0 (j + 1) H' L' W' := by
  have hi := h.ids
  have ho := h.offL
  have hcn := h.cnt
  obtain ⟨⟨nb, rfl⟩, -, rfl⟩ := h
  have hw : wanL (wd (0 + 1) j) ((j : Int) + 1) = none := by rw [wanL_wd, if_neg (by omega)]
  have hm : md [(na, nb, [((0 : Int), (5 : Int))])] ((j : Int) + 1) na = 0 := by
    show mdL [((0 : Int), (5 : Int))] ((j : Int) + 1) = 0
    unfold mdL
    rw [List.find?_cons, decide_eq_false (by simp; omega)]
    rfl
  have e : joinedZ 0 5 = 5 := by decide +kernel
  cases t with
  | arg h => rw [hm, e, hw] at h; rcases h with h | h <;> cases h
  | same _ hj hs => rw [hm, e] at hs; cases hs
  | full _ hj hm2 hc => rw [hcn] at hc; omega
  | hold _ hj hs hm2 hf nb2 =>
    rw [hm, e] at hf
    exact absurd hf (row_blk _ _ (by omega))
  | busy _ hj hs hm2 hf v =>
    rw [hm, e, ho, hi, offW_not hw]
    refine ⟨rfl, ⟨nb, rfl⟩, ⟨v, ?_⟩, ?_⟩
    · rw [if_neg (by omega)]
      have e2 : entH [(na, nb, [((0 : Int), (5 : Int))])] (up (0 + 1) j) ((j : Int) + 1) na = up (0 + 1) (j + 1) := by
        unfold entH plH
        rw [if_pos hm, List.take_length, List.drop_length, List.append_nil, ← up_snoc]
        have : (0 : Int) + 1 + j = (j : Int) + 1 := by omega
        rw [this]
      rw [e2]
    · show _ = ((0 : Int) + 1 + j, na, 5) :: wd (0 + 1) j
      have : (0 : Int) + 1 + j = (j : Int) + 1 := by omega
      rw [this]
theorem stp_nil {H H' : List Hol} {L' : List Lin} {W W' : List Wan} {s : List Int} {k : Nat} (t : Stp (namesL []) H [] W k H' L' W' s) : H' = H ∧ L' = [] ∧ W' = W ∧ s = [] := by
  have hn : namesL [] = [] := by unfold namesL; simp
  rw [hn] at t
  cases t with
  | start => exact ⟨rfl, rfl, rfl, rfl⟩
  | one t id nb v hk hx => cases hk
  | next t hk hx => cases hk
theorem row_drop {i : Int} {j : Nat} {H Hd H' : List Hol} {L L' : List Lin} {W W' : List Wan} {s : List Int} (h : St i j H L W) (hp : Hd.Perm (dropL H i)) (t : CanT Hd L W i H' L' W' s) :
    (j = 0 ∧ s = [] ∧ H' = [] ∧ L' = [] ∧ W' = []) ∨ ∃ j', j = j' + 1 ∧ s = [i + 1] ∧ St (i + 1) j' H' L' W' := by
  obtain ⟨⟨nb, rfl⟩, ⟨v, rfl⟩, rfl⟩ := h
  have hd : Hd = [] := by
    refine List.Perm.eq_nil (hp.trans ?_)
    have : dropL [(na, nb, [(i, (5 : Int))])] i = [] := by
      unfold dropL
      show List.filter _ [offX (na, nb, [(i, 5)]) i] = _
      rw [List.filter_cons]
      show (if (!(without [(i, (5 : Int))] i).isEmpty) = true then _ else _) = _
      simp [without]
    rw [this]
  subst hd
  have hw : wanL (wd (i + 1) j) i = none := by rw [wanL_wd, if_neg (by omega)]
  cases t with
  | yes hw2 _ _ => rw [hw] at hw2; cases hw2
  | no _ t =>
    cases j with
    | zero =>
      rw [if_pos rfl] at t
      obtain ⟨rfl, rfl, rfl, rfl⟩ := stp_nil t
      exact Or.inl ⟨rfl, rfl, rfl, rfl, rfl⟩
    | succ j =>
      refine Or.inr ⟨j, rfl, ?_⟩
      rw [if_neg (by omega)] at t
      rw [names1] at t
      have hb : ∀ (H : List Hol) (L : List Lin) (W : List Wan), St (i + 1) j H L W → nxL H L W na = none := by
        intro H L W h
        have hi := h.ids
        obtain ⟨⟨nb, rfl⟩, -, rfl⟩ := h
        unfold nxL
        rw [hi]
        refine nxN_none _ _ fun o ho pre => ?_
        have hm := (up_mem _ _ _).1 ho
        have hwv : wV (wd (i + 1 + 1) j) o = (na, 5) := wV_of (by rw [wanL_wd, if_pos hm])
        unfold canL
        rw [hwv]
        exact decide_eq_false (row_blk _ _ (by omega))
      have h0 : nxL [] [(na, v, up (i + 1) (j + 1))] (wd (i + 1) (j + 1)) na = some (i + 1) := by
        show nxN _ [] (up (i + 1) (j + 1)) = _
        show (if canL [] (wd (i + 1) (j + 1)) (i + 1) [] then some (i + 1) else _) = _
        have hwv : wV (wd (i + 1) (j + 1)) (i + 1) = (na, 5) := wV_of ((wanL_wd (i + 1) (j + 1) (i + 1)).trans (if_pos (by omega)))
        rw [if_pos]
        unfold canL
        rw [hwv]
        rfl
      have hwv : wV (wd (i + 1) (j + 1)) (i + 1) = (na, 5) := wV_of ((wanL_wd (i + 1) (j + 1) (i + 1)).trans (if_pos (by omega)))
      have key : ∀ (k : Nat) H L W s, Stp [na] [] [(na, v, up (i + 1) (j + 1))] (wd (i + 1) (j + 1)) k H L W s → (k = 0 ∧ s = [] ∧ H = [] ∧ L = [(na, v, up (i + 1) (j + 1))] ∧ W = wd (i + 1) (j + 1)) ∨ ((k = 0 ∨ k = 1) ∧ s = [i + 1] ∧ St (i + 1) j H L W) := by
        intro k H L W s t
        induction t with
        | start => exact Or.inl ⟨rfl, rfl, rfl, rfl, rfl⟩
        | @one k H L W s t id nb v2 hk hx ih =>
          rcases ih with ⟨rfl, rfl, rfl, rfl, rfl⟩ | ⟨h, rfl, hs⟩
          · have hx2 : nxL [] [(na, v, up (i + 1) (j + 1))] (wd (i + 1) (j + 1)) na = some id := hx
            rw [h0] at hx2
            cases hx2
            refine Or.inr ⟨Or.inl rfl, rfl, ⟨nb, ?_⟩, ⟨v2, ?_⟩, ?_⟩
            · rw [hwv]; rfl
            · show lvB [(na, v, up (i + 1) (j + 1))] (i + 1) na v2 = _
              have e1 : ids [(na, v, up (i + 1) (j + 1))] na = up (i + 1) (j + 1) := rfl
              have e2 : offL [(na, v, up (i + 1) (j + 1))] na = [] := rfl
              unfold lvB
              rw [e1, e2, up_len, lvL_erase]
              cases j with
              | zero => rfl
              | succ j =>
                rw [if_neg (by omega), if_neg (by omega)]
                show [(na, v2, ((i + 1) :: up (i + 1 + 1) (j + 1)).erase (i + 1))] = _
                rw [List.erase_cons_head]
            · exact offW_wd _ _
          · rcases h with rfl | rfl
            · have hx2 : nxL H L W na = some id := hx
              rw [hb _ _ _ hs] at hx2
              cases hx2
            · exact absurd hk (by simp)
        | @next k H L W s t hk hx ih =>
          rcases ih with ⟨rfl, rfl, rfl, rfl, rfl⟩ | ⟨h, rfl, hs⟩
          · have hx2 : nxL [] [(na, v, up (i + 1) (j + 1))] (wd (i + 1) (j + 1)) na = none := hx
            rw [h0] at hx2
            cases hx2
          · rcases h with rfl | rfl
            · exact Or.inr ⟨Or.inr rfl, rfl, hs⟩
            · exact absurd hk (by simp)
      rcases key _ _ _ _ _ t with ⟨h, -⟩ | ⟨-, h⟩
      · cases h
      · exact h
end Go.Proofs.YtikdjgholjealaaDoor.Lk
