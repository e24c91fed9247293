/- What a book says, name by name; what stays so. Plain. -/
import Derived.Test.YtikdjgholjealaaGreatDoorLkK
import Derived.Test.YtikdjgholjealaaGreatDoorLkW
import Derived.Test.YtikdjgholjealaaGreatDoorLkY
namespace Go.Proofs.YtikdjgholjealaaGreatDoor.Lk
open Go.ChangeShapes Go.WideShapes Go.ChangeAt Go.RowKit Go.PlainAid Aid Md
set_option linter.unusedVariables false
set_option linter.unusedSimpArgs false
theorem find_key {α β : Type} [DecidableEq α] (f : β → α) (l : List β) (k : α) (x : β) (h : l.find? (fun z => decide (f z = k)) = some x) : x ∈ l ∧ f x = k :=
  ⟨List.mem_of_find?_eq_some h, by simpa using List.find?_some h⟩
theorem find_in {α β : Type} [DecidableEq α] (f : β → α) {l : List β} (ha : l.Pairwise fun x y => f x ≠ f y) {x : β} (hx : x ∈ l) : l.find? (fun z => decide (f z = f x)) = some x := by
  induction l with
  | nil => cases hx
  | cons y l ih =>
    obtain ⟨h1, h2⟩ := List.pairwise_cons.1 ha
    rcases List.mem_cons.1 hx with rfl | hx
    · rw [List.find?_cons, decide_eq_true rfl]
    · rw [List.find?_cons, decide_eq_false (h1 x hx)]
      exact ih h2 hx
theorem find_cons {α β : Type} [DecidableEq α] (f : β → α) (y : β) (l : List β) (k : α) : (y :: l).find? (fun z => decide (f z = k)) = if f y = k then some y else l.find? fun z => decide (f z = k) := by
  rw [List.find?_cons]
  by_cases h : f y = k
  · rw [decide_eq_true h, if_pos h]
  · rw [decide_eq_false h, if_neg h]
theorem find_off {α β : Type} [DecidableEq α] (f : β → α) (l : List β) (k k' : α) : (l.filter fun z => !decide (f z = k)).find? (fun z => decide (f z = k')) = if k' = k then none else l.find? fun z => decide (f z = k') := by
  induction l with
  | nil => simp
  | cons y l ih =>
    rw [List.filter_cons, find_cons]
    by_cases h : f y = k
    · rw [decide_eq_true h]
      simp only [Bool.not_true, Bool.false_eq_true, if_false]
      rw [ih]
      by_cases h2 : k' = k
      · rw [if_pos h2, if_pos h2]
      · rw [if_neg h2, if_neg h2, if_neg (fun e : f y = k' => h2 (e.symm.trans h))]
    · rw [decide_eq_false h]
      simp only [Bool.not_false, if_true]
      rw [find_cons, ih]
      by_cases h2 : f y = k'
      · rw [if_pos h2, if_neg (fun e => h (h2.trans e))]
        simp [h2]
      · rw [if_neg h2]
        simp [h2]
section
variable {H H' : List Hol} {L L' : List Lin} {W : List Wan} {id id' m : Int} {name name' : By}
/-! Lines. -/
theorem linL_off (L : List Lin) (name name' : By) : linL (offL L name) name' = if name' = name then none else linL L name' := find_off (fun x : Lin => x.1) L name name'
theorem ids_off (L : List Lin) (name name' : By) : ids (offL L name) name' = if name' = name then [] else ids L name' := by
  unfold ids
  rw [linL_off]
  by_cases e : name' = name
  · rw [if_pos e, if_pos e]
  · rw [if_neg e, if_neg e]
theorem ids_put (L : List Lin) (name name' : By) (v : Value) (l : List Int) : ids ((name, v, l) :: offL L name) name' = if name' = name then l else ids L name' := by
  have h : linL ((name, v, l) :: offL L name) name' = if name = name' then some (name, v, l) else linL (offL L name) name' := find_cons (fun x : Lin => x.1) _ _ _
  unfold ids
  rw [h, linL_off]
  by_cases e : name' = name
  · rw [if_pos e.symm, if_pos e]
  · rw [if_neg (fun x => e x.symm), if_neg e, if_neg e]
theorem lvL_one (l : List Int) (id : Int) (h : l.length = 1) (hm : id ∈ l) : lvL l id = [] := by
  match l, h with
  | [a], _ =>
    obtain rfl : id = a := by simpa using hm
    unfold lvL fx
    simp
theorem ids_lv (L : List Lin) (id : Int) (name name' : By) (v : Value) (hm : id ∈ ids L name) : ids (lvB L id name v) name' = if name' = name then lvL (ids L name) id else ids L name' := by
  unfold lvB
  by_cases h : (ids L name).length = 1
  · rw [if_pos h, ids_off, lvL_one _ _ h hm]
  · rw [if_neg h, ids_put]
theorem lvL_erase (l : List Int) (id : Int) : lvL l id = l.erase id := by
  induction l with
  | nil => rfl
  | cons a l ih =>
    unfold lvL fx at ih ⊢
    rw [List.takeWhile_cons, List.erase_cons]
    by_cases h : a = id
    · subst h; simp
    · have h2 : (a == id) = false := by simpa using h
      have h3 : (!(fun z => decide (z = id)) a) = true := by simp [h]
      rw [if_pos h3, h2]
      simp only [Bool.false_eq_true, if_false, List.length_cons, List.take_succ_cons, List.drop_succ_cons, List.cons_append]
      rw [ih]
/-! Wants. -/
theorem wanL_off (W : List Wan) (id id' : Int) : wanL (offW W id) id' = if id' = id then none else wanL W id' := find_off (fun x : Wan => x.1) W id id'
theorem wanL_put (W : List Wan) (id id' : Int) (y : By × Int) : wanL ((id, y) :: offW W id) id' = if id' = id then some (id, y) else wanL W id' := by
  have h : wanL ((id, y) :: offW W id) id' = if id = id' then some (id, y) else wanL (offW W id) id' := find_cons (fun x : Wan => x.1) _ _ _
  rw [h, wanL_off]
  by_cases e : id' = id
  · rw [if_pos e.symm, if_pos e]
  · rw [if_neg (fun x => e x.symm), if_neg e, if_neg e]
/-! Holders. -/
theorem holL_off (H : List Hol) (name name' : By) : holL (offH H name) name' = if name' = name then none else holL H name' := find_off (fun x : Hol => x.1) H name name'
theorem holL_set (H : List Hol) (id m : Int) (name name' : By) (nb : Nat) : ∃ b, holL (setH H id name m nb) name' = if name' = name then some (name, b, setL (holE H name) id m) else holL H name' := by
  unfold setH
  cases hx : holL H name with
  | none =>
    have he : holE H name = [] := by unfold holE; rw [hx]
    refine ⟨nb, ?_⟩
    have h : holL ((name, nb, [(id, m)]) :: H) name' = if name = name' then some (name, nb, [(id, m)]) else holL H name' := find_cons (fun x : Hol => x.1) _ _ _
    rw [h, he]
    by_cases e : name' = name
    · rw [if_pos e.symm, if_pos e]; rfl
    · rw [if_neg (fun x => e x.symm), if_neg e]
  | some x =>
    have he : holE H name = x.2.2 := by unfold holE; rw [hx]
    have hxn : x.1 = name := (find_key (fun x : Hol => x.1) H name x hx).2
    refine ⟨x.2.1, ?_⟩
    have h : holL ((x.1, x.2.1, setL x.2.2 id m) :: offH H name) name' = if x.1 = name' then some (x.1, x.2.1, setL x.2.2 id m) else holL (offH H name) name' := find_cons (fun x : Hol => x.1) _ _ _
    show holL ((x.1, x.2.1, setL x.2.2 id m) :: offH H name) name' = _
    rw [h, he, hxn, holL_off]
    by_cases e : name' = name
    · rw [if_pos e.symm, if_pos e]
    · rw [if_neg (fun x => e x.symm), if_neg e, if_neg e]
theorem holE_set (H : List Hol) (id m : Int) (name name' : By) (nb : Nat) : holE (setH H id name m nb) name' = if name' = name then setL (holE H name) id m else holE H name' := by
  obtain ⟨b, hb⟩ := holL_set H id m name name' nb
  by_cases e : name' = name
  · rw [if_pos e] at hb ⊢
    generalize holE H name = hh at *
    unfold holE
    rw [hb]
  · rw [if_neg e] at hb ⊢
    unfold holE
    rw [hb]
theorem md_holE (H : List Hol) (id : Int) (name : By) : md H id name = mdL (holE H name) id := by
  unfold md holE
  cases holL H name <;> rfl
theorem find_without (l : List (Int × Int)) (id id' : Int) : (without l id).find? (fun p => decide (p.1 = id')) = if id' = id then none else l.find? fun p => decide (p.1 = id') := find_off (fun x : Int × Int => x.1) l id id'
theorem mdL_without (l : List (Int × Int)) (id id' : Int) : mdL (without l id) id' = if id' = id then 0 else mdL l id' := by
  unfold mdL
  rw [find_without]
  by_cases e : id' = id
  · rw [if_pos e, if_pos e]
  · rw [if_neg e, if_neg e]
theorem mdL_set (l : List (Int × Int)) (id m id' : Int) : mdL (setL l id m) id' = if id' = id then m else mdL l id' := by
  have h : (setL l id m).find? (fun p => decide (p.1 = id')) = if id = id' then some (id, m) else (without l id).find? fun p => decide (p.1 = id') := find_cons (fun x : Int × Int => x.1) _ _ _
  unfold mdL
  rw [h, find_without]
  by_cases e : id' = id
  · rw [if_pos e.symm, if_pos e]
  · rw [if_neg (fun x => e x.symm), if_neg e, if_neg e]
theorem md_set (H : List Hol) (id m id' : Int) (name name' : By) (nb : Nat) : md (setH H id name m nb) id' name' = if name' = name ∧ id' = id then m else md H id' name' := by
  rw [md_holE, holE_set, md_holE]
  by_cases e : name' = name
  · subst e
    rw [if_pos rfl, mdL_set]
    by_cases e2 : id' = id
    · rw [if_pos e2, if_pos ⟨rfl, e2⟩]
    · rw [if_neg e2, if_neg (fun x => e2 x.2)]
  · rw [if_neg e, if_neg (fun x => e x.1)]
theorem Apart.hol {H : List Hol} (ha : Apart H) {x : Hol} (hx : x ∈ H) : holL H x.1 = some x := find_in (fun x : Hol => x.1) ha hx
theorem holL_perm (hp : H.Perm H') (ha : Apart H) (name : By) : holL H' name = holL H name := by
  have ha' : Apart H' := (hp.pairwise_iff (fun h => Ne.symm h)).1 ha
  cases h : holL H name with
  | some x =>
    obtain ⟨hx, rfl⟩ := find_key (fun x : Hol => x.1) H name x h
    exact ha'.hol (hp.mem_iff.1 hx)
  | none =>
    cases h' : holL H' name with
    | none => rfl
    | some x =>
      obtain ⟨hx, rfl⟩ := find_key (fun x : Hol => x.1) H' name x h'
      rw [ha.hol (hp.mem_iff.2 hx)] at h
      cases h
theorem holE_perm (hp : H.Perm H') (ha : Apart H) (name : By) : holE H' name = holE H name := by
  unfold holE
  rw [holL_perm hp ha]
theorem holE_drop (ha : Apart H) (id : Int) (name : By) : holE (dropL H id) name = without (holE H name) id := by
  induction H with
  | nil => rfl
  | cons x H ih =>
    obtain ⟨h1, h2⟩ := List.pairwise_cons.1 ha
    have e : holE (x :: H) name = if x.1 = name then x.2.2 else holE H name := by
      unfold holE
      have : holL (x :: H) name = if x.1 = name then some x else holL H name := find_cons (fun x : Hol => x.1) _ _ _
      rw [this]
      by_cases e : x.1 = name
      · rw [if_pos e, if_pos e]
      · rw [if_neg e, if_neg e]
    have ed : ∀ H : List Hol, dropL (x :: H) id = (if (without x.2.2 id).isEmpty then dropL H id else offX x id :: dropL H id) := fun H => by
      unfold dropL
      rw [List.map_cons, List.filter_cons]
      show (if (!(without x.2.2 id).isEmpty) = true then _ else _) = _
      cases (without x.2.2 id).isEmpty <;> rfl
    have ec : holE (offX x id :: dropL H id) name = if x.1 = name then without x.2.2 id else holE (dropL H id) name := by
      unfold holE
      have : holL (offX x id :: dropL H id) name = if x.1 = name then some (offX x id) else holL (dropL H id) name := find_cons (fun x : Hol => x.1) _ _ _
      rw [this]
      by_cases e : x.1 = name
      · rw [if_pos e, if_pos e]; rfl
      · rw [if_neg e, if_neg e]
    rw [ed, e]
    by_cases hn : x.1 = name
    · rw [if_pos hn]
      have h0 : holE H name = [] := by
        unfold holE
        cases h : holL H name with
        | none => rfl
        | some y =>
          obtain ⟨hy, e2⟩ := find_key (fun x : Hol => x.1) H name y h
          exact absurd (hn.trans e2.symm) (h1 y hy)
      cases hz : (without x.2.2 id).isEmpty with
      | true =>
        rw [if_pos rfl, ih h2, h0]
        exact (List.isEmpty_iff.1 hz).symm
      | false =>
        rw [if_neg (by decide), ec, if_pos hn]
    · rw [if_neg hn]
      cases hz : (without x.2.2 id).isEmpty with
      | true => rw [if_pos rfl, ih h2]
      | false => rw [if_neg (by decide), ec, if_neg hn, ih h2]
theorem md_drop (ha : Apart H) (id id' : Int) (name : By) : md (dropL H id) id' name = if id' = id then 0 else md H id' name := by
  rw [md_holE, holE_drop ha, mdL_without, md_holE]
theorem drop_apart (ha : Apart H) (id : Int) : Apart (dropL H id) := by
  unfold dropL Apart
  refine List.Pairwise.filter _ ?_
  rw [List.pairwise_map]
  exact ha
theorem drop_mem {x : Hol} (hx : x ∈ dropL H id) : ∃ y, y ∈ H ∧ x.1 = y.1 ∧ x.2.2 = without y.2.2 id ∧ x.2.2.length ≤ y.2.2.length := by
  unfold dropL at hx
  obtain ⟨y, hy, rfl⟩ := List.mem_map.1 (List.mem_filter.1 hx).1
  exact ⟨y, hy, rfl, rfl, List.length_filter_le _ _⟩
theorem drop_len (H : List Hol) (id : Int) : (dropL H id).length ≤ H.length := by
  unfold dropL
  exact Nat.le_trans (List.length_filter_le _ _) (by rw [List.length_map]; exact Nat.le_refl _)
end
end Go.Proofs.YtikdjgholjealaaGreatDoor.Lk
