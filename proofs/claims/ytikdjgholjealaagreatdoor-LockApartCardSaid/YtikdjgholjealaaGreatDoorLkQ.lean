/- A book that is in order; asking, in all cases; leaving; serving, step by step. -/
import Derived.Test.YtikdjgholjealaaGreatDoorLkP
import Derived.Test.YtikdjgholjealaaGreatDoorMdW
namespace Go.Proofs.YtikdjgholjealaaGreatDoor.Lk
open Go.ChangeShapes Go.WideShapes Go.ChangeAt Go.RowKit Go.PlainAid Aid Md
set_option linter.unusedVariables false
set_option linter.unusedSimpArgs false
/-- A book in order; N bounds what it holds. -/
structure Inv (N : Nat) (H : List Hol) (L : List Lin) (W : List Wan) : Prop where
  ap : Apart H
  hn : ∀ x, x ∈ H → x.1.length ≤ 1000
  ln : ∀ x, x ∈ L → x.1.length ≤ 1000
  li : ∀ name o, o ∈ ids L name → ∃ m, wanL W o = some (o, name, m)
  wa : ∀ o y, wanL W o = some y → o ∈ ids L y.2.1 ∧ I64w o ∧ y.2.1.length ≤ 1000 ∧ goodZ y.2.2 = true
  nd : ∀ name, (ids L name).Nodup
  sH : H.length + W.length ≤ N
  sh : ∀ x, x ∈ H → x.2.2.length + W.length ≤ N
  sL : L.length ≤ N
  sl : ∀ name, (ids L name).length ≤ N
section
variable {N : Nat} {H : List Hol} {L : List Lin} {W : List Wan} {id m : Int} {name : By}
theorem Inv.okS (h : Inv N H L W) (hN : N ≤ 100000) : OkS H L W where
  hl x hx := by have := h.sh x hx; omega
  hH := by have := h.sH; omega
  ln name := by have := h.sl name; omega
  lL := by have := h.sL; omega
  li name o ho := by obtain ⟨m, hm⟩ := h.li name o ho; exact (h.wa o _ hm).2.1
  wn o := by
    unfold wV
    cases hw : wanL W o with
    | none => exact Nat.zero_le _
    | some y => exact (h.wa o y hw).2.2.1
  lw := h.li
theorem wanL_one {o : Int} {y : Wan} (h : wanL W o = some y) : y.1 = o := (find_key (fun x : Wan => x.1) W o y h).2
theorem setL_len (l : List (Int × Int)) (id m : Int) : (setL l id m).length ≤ l.length + 1 := by
  unfold setL without
  rw [List.length_cons]
  have := List.length_filter_le (fun p : Int × Int => !decide (p.1 = id)) l
  omega
theorem setH_mem {x : Hol} {nb : Nat} (hx : x ∈ setH H id name m nb) : x ∈ H ∨ (x.1 = name ∧ x.2.2 = setL (holE H name) id m) := by
  unfold setH at hx
  cases h : holL H name with
  | none =>
    rw [h] at hx
    rcases List.mem_cons.1 hx with rfl | hx
    · exact Or.inr ⟨rfl, by unfold holE; rw [h]; rfl⟩
    · exact Or.inl hx
  | some y =>
    rw [h] at hx
    rcases List.mem_cons.1 hx with rfl | hx
    · exact Or.inr ⟨(find_key (fun x : Hol => x.1) H name y h).2, by unfold holE; rw [h]⟩
    · exact Or.inl (List.mem_filter.1 hx).1
theorem setH_apart (ha : Apart H) (nb : Nat) : Apart (setH H id name m nb) := by
  unfold setH
  cases h : holL H name with
  | none =>
    refine List.pairwise_cons.2 ⟨fun x hx e => ?_, ha⟩
    have h2 := ha.hol hx
    have e2 : name = x.1 := e
    rw [← e2, h] at h2
    cases h2
  | some y =>
    refine List.pairwise_cons.2 ⟨fun x hx e => ?_, ha.filter _⟩
    have h2 := (List.mem_filter.1 hx).2
    have e2 : y.1 = x.1 := e
    rw [(find_key (fun x : Hol => x.1) H name y h).2] at e2
    rw [← e2] at h2
    simp at h2
theorem setH_len (H : List Hol) (id m : Int) (name : By) (nb : Nat) : (setH H id name m nb).length ≤ H.length + 1 := by
  unfold setH
  cases h : holL H name with
  | none => exact Nat.le_refl _
  | some y =>
    show (offH H name).length + 1 ≤ _
    have := List.length_filter_le (fun x : Hol => !decide (x.1 = name)) H
    unfold offH
    omega
theorem holE_len {N : Nat} (h : ∀ x, x ∈ H → x.2.2.length ≤ N) (name : By) : (holE H name).length ≤ N := by
  unfold holE
  cases hx : holL H name with
  | none => exact Nat.zero_le _
  | some x => exact h x (find_key (fun x : Hol => x.1) H name x hx).1
theorem offW_le (W : List Wan) (id : Int) : (offW W id).length ≤ W.length := List.length_filter_le _ _
theorem lvB_len (L : List Lin) (id : Int) (name : By) (v : Value) (hm : id ∈ ids L name) : (lvB L id name v).length ≤ L.length := by
  unfold lvB
  have h1 : (offL L name).length ≤ L.length := List.length_filter_le _ _
  by_cases h : (ids L name).length = 1
  · rw [if_pos h]; exact h1
  · rw [if_neg h, List.length_cons]
    unfold ids at hm
    cases hx : linL L name with
    | none => rw [hx] at hm; cases hm
    | some x =>
      obtain ⟨hxm, e⟩ := find_key (fun x : Lin => x.1) L name x hx
      have : (offL L name).length < L.length := List.length_filter_lt_length_iff_exists.2 ⟨x, hxm, by simpa using e⟩
      omega
theorem lvB_name {L : List Lin} {id : Int} {name : By} {v : Value} {x : Lin} (hx : x ∈ lvB L id name v) : x ∈ L ∨ x.1 = name := by
  unfold lvB at hx
  split at hx
  · exact Or.inl (List.mem_filter.1 hx).1
  · rcases List.mem_cons.1 hx with rfl | hx
    · exact Or.inr rfl
    · exact Or.inl (List.mem_filter.1 hx).1
/-- One leaves its line. -/
theorem Inv.leave (h : Inv N H L W) {y : Wan} (hw : wanL W id = some y) (v : Value) : Inv N H (lvB L id y.2.1 v) (offW W id) := by
  obtain ⟨hm, hi, hn, hg⟩ := h.wa id y hw
  have hlt := offW_lt hw
  refine ⟨h.ap, h.hn, fun x hx => ?_, fun nm o ho => ?_, fun o z hz => ?_, fun nm => ?_, by have := h.sH; omega, fun x hx => by have := h.sh x hx; omega, Nat.le_trans (lvB_len _ _ _ _ hm) h.sL, fun nm => ?_⟩
  · rcases lvB_name hx with hx | hx
    · exact h.ln x hx
    · rw [hx]; exact hn
  · rw [ids_lv _ _ _ _ _ hm] at ho
    rw [wanL_off]
    have ho2 : o ∈ ids L nm := by
      by_cases e : nm = y.2.1
      · rw [if_pos e, lvL_erase] at ho; rw [e]; exact List.mem_of_mem_erase ho
      · rw [if_neg e] at ho; exact ho
    have hne : o ≠ id := by
      rintro rfl
      by_cases e : nm = y.2.1
      · rw [if_pos e, lvL_erase] at ho
        exact (h.nd _).not_mem_erase ho
      · obtain ⟨m2, hm2⟩ := h.li nm o ho2
        rw [hw] at hm2
        cases hm2
        exact e rfl
    rw [if_neg hne]
    exact h.li nm o ho2
  · rw [wanL_off] at hz
    by_cases e : o = id
    · rw [if_pos e] at hz; cases hz
    · rw [if_neg e] at hz
      obtain ⟨h1, h2⟩ := h.wa o z hz
      refine ⟨?_, h2⟩
      rw [ids_lv _ _ _ _ _ hm]
      by_cases e2 : z.2.1 = y.2.1
      · rw [if_pos e2, lvL_erase]
        rw [e2] at h1
        exact (List.mem_erase_of_ne e).2 h1
      · rw [if_neg e2]; exact h1
  · rw [ids_lv _ _ _ _ _ hm]
    split
    · rw [lvL_erase]; exact (h.nd _).erase _
    · exact h.nd nm
  · rw [ids_lv _ _ _ _ _ hm]
    split
    · rw [lvL_erase]; exact Nat.le_trans List.length_erase_le (h.sl _)
    · exact h.sl nm
/-- One has something. -/
theorem Inv.hold (h : Inv N H L W) (hn : name.length ≤ 1000) (nb : Nat) (m : Int) (hs : H.length + W.length < N) (hs2 : (holE H name).length + W.length < N) : Inv N (setH H id name m nb) L W := by
  refine ⟨setH_apart h.ap nb, fun x hx => ?_, h.ln, h.li, h.wa, h.nd, ?_, fun x hx => ?_, h.sL, h.sl⟩
  · rcases setH_mem hx with hx | ⟨e, -⟩
    · exact h.hn x hx
    · rw [e]; exact hn
  · have := setH_len H id m name nb; omega
  · rcases setH_mem hx with hx | ⟨-, e⟩
    · exact h.sh x hx
    · rw [e]; have := setL_len (holE H name) id m; omega
theorem Inv.holN (h : Inv N H L W) (name : By) : (holE H name).length + W.length ≤ N := by
  unfold holE
  cases hx : holL H name with
  | none => have := h.sH; simp; omega
  | some x => exact h.sh x (find_key (fun x : Hol => x.1) H name x hx).1
/-- One is served. -/
theorem Inv.serve (h : Inv N H L W) {y : Wan} (hw : wanL W id = some y) (nb : Nat) (v : Value) : Inv N (setH H id y.2.1 y.2.2 nb) (lvB L id y.2.1 v) (offW W id) := by
  have hlt := offW_lt hw
  have h1 := h.sH
  have h2 := h.holN y.2.1
  exact (h.leave hw v).hold (h.wa id y hw).2.2.1 nb _ (by omega) (by omega)
theorem Inv.mono (h : Inv N H L W) {M : Nat} (hM : N ≤ M) : Inv M H L W :=
  ⟨h.ap, h.hn, h.ln, h.li, h.wa, h.nd, Nat.le_trans h.sH hM, fun x hx => Nat.le_trans (h.sh x hx) hM, Nat.le_trans h.sL hM, fun nm => Nat.le_trans (h.sl nm) hM⟩
theorem ent_perm (l : List Int) (k : Nat) (id : Int) : (l.take k ++ [id] ++ l.drop k).Perm (id :: l) := by
  rw [List.append_assoc]
  have h : (l.take k ++ ([id] ++ l.drop k)).Perm (id :: (l.take k ++ l.drop k)) := List.perm_middle
  rw [List.take_append_drop] at h
  exact h
theorem Inv.enter (h : Inv N H L W) (hw : wanL W id = none) (hi : I64w id) (hn : name.length ≤ 1000) (hg : goodZ m = true) (v : Value) : Inv (N + 1) H ((name, v, entH H (ids L name) id name) :: offL L name) ((id, name, m) :: offW W id) := by
  have hp : (entH H (ids L name) id name).Perm (id :: ids L name) := ent_perm _ _ _
  have hoW := offW_le W id
  have hoL : (offL L name).length ≤ L.length := List.length_filter_le _ _
  have hni : ∀ nm, id ∉ ids L nm := fun nm hc => by
    obtain ⟨m2, h2⟩ := h.li nm id hc
    rw [hw] at h2; cases h2
  refine ⟨h.ap, h.hn, fun x hx => ?_, fun nm o ho => ?_, fun o z hz => ?_, fun nm => ?_, ?_, fun x hx => ?_, ?_, fun nm => ?_⟩
  · rcases List.mem_cons.1 hx with rfl | hx
    · exact hn
    · exact h.ln x (List.mem_filter.1 hx).1
  · rw [ids_put] at ho
    rw [wanL_put]
    by_cases e2 : o = id
    · subst e2
      rw [if_pos rfl]
      by_cases e : nm = name
      · subst e; exact ⟨m, rfl⟩
      · rw [if_neg e] at ho; exact absurd ho (hni nm)
    · rw [if_neg e2]
      by_cases e : nm = name
      · subst e
        rw [if_pos rfl] at ho
        rcases List.mem_cons.1 (hp.mem_iff.1 ho) with x | x
        · exact absurd x e2
        · exact h.li nm o x
      · rw [if_neg e] at ho; exact h.li nm o ho
  · rw [wanL_put] at hz
    by_cases e2 : o = id
    · subst e2
      rw [if_pos rfl] at hz
      cases hz
      refine ⟨?_, hi, hn, hg⟩
      show o ∈ ids _ name
      rw [ids_put, if_pos rfl]
      exact hp.mem_iff.2 List.mem_cons_self
    · rw [if_neg e2] at hz
      obtain ⟨h1, h2⟩ := h.wa o z hz
      refine ⟨?_, h2⟩
      rw [ids_put]
      by_cases e : z.2.1 = name
      · rw [if_pos e]
        exact hp.mem_iff.2 (List.mem_cons_of_mem _ (e ▸ h1))
      · rw [if_neg e]; exact h1
  · rw [ids_put]
    by_cases e : nm = name
    · rw [if_pos e]
      exact hp.nodup_iff.2 (List.nodup_cons.2 ⟨hni _, h.nd _⟩)
    · rw [if_neg e]; exact h.nd nm
  · have := h.sH; rw [List.length_cons]; omega
  · have := h.sh x hx; rw [List.length_cons]; omega
  · have := h.sL; rw [List.length_cons]; omega
  · rw [ids_put]
    split
    · rw [hp.length_eq, List.length_cons]; have := h.sl name; omega
    · have := h.sl nm; omega
/-- Somebody drops all that it holds. -/
theorem Inv.drop (h : Inv N H L W) {H' : List Hol} (hp : H'.Perm (dropL H id)) : Inv N H' L W := by
  refine ⟨(hp.symm.pairwise_iff (fun h => Ne.symm h)).1 (drop_apart h.ap id), fun x hx => ?_, h.ln, h.li, h.wa, h.nd, ?_, fun x hx => ?_, h.sL, h.sl⟩
  · obtain ⟨y, hy, e, -, -⟩ := drop_mem (hp.mem_iff.1 hx)
    rw [e]; exact h.hn y hy
  · have h1 := hp.length_eq
    have h2 := drop_len H id
    have := h.sH
    omega
  · obtain ⟨y, hy, -, -, e⟩ := drop_mem (hp.mem_iff.1 hx)
    have := h.sh y hy
    omega
theorem inv_nil : Inv 0 [] [] [] := ⟨List.Pairwise.nil, fun x hx => (by cases hx), fun x hx => (by cases hx), fun _ _ ho => (by cases ho), fun _ _ ho => (by cases ho), fun _ => List.nodup_nil, Nat.le_refl _, fun x hx => (by cases hx), Nat.le_refl _, fun _ => Nat.le_refl _⟩
/-! Asking. -/
inductive AskT (H : List Hol) (L : List Lin) (W : List Wan) (id : Int) (name : By) (mode : Int) : Int → List Hol → List Lin → List Wan → Prop
  | arg (h : (wanL W id).isSome = true ∨ joinedZ (md H id name) mode = 0) : AskT H L W id name mode 1 H L W
  | same (hw : wanL W id = none) (hj : joinedZ (md H id name) mode ≠ 0) (hs : joinedZ (md H id name) mode = md H id name) : AskT H L W id name mode 0 H L W
  | full (hw : wanL W id = none) (hj : joinedZ (md H id name) mode ≠ 0) (hm : md H id name = 0) (hc : 300 ≤ cnt H W) : AskT H L W id name mode 10 H L W
  | busy (hw : wanL W id = none) (hj : joinedZ (md H id name) mode ≠ 0) (hs : joinedZ (md H id name) mode ≠ md H id name) (hm : md H id name ≠ 0 ∨ cnt H W < 300) (hf : blkL H W id name (joinedZ (md H id name) mode) (ids L name) ≠ []) (v : Value) :
      AskT H L W id name mode 11 H ((name, v, entH H (ids L name) id name) :: offL L name) ((id, name, joinedZ (md H id name) mode) :: offW W id)
  | hold (hw : wanL W id = none) (hj : joinedZ (md H id name) mode ≠ 0) (hs : joinedZ (md H id name) mode ≠ md H id name) (hm : md H id name ≠ 0 ∨ cnt H W < 300) (hf : blkL H W id name (joinedZ (md H id name) mode) (ids L name) = []) (nb : Nat) :
      AskT H L W id name mode 0 (setH H id name (joinedZ (md H id name) mode) nb) L W
theorem joinedZ_good {a b : Int} (h : joinedZ a b ≠ 0) : goodZ (joinedZ a b) = true := by
  unfold joinedZ at h ⊢
  have h2 : joinZ (if a = 0 then b else a) b ≠ 0 := by intro e; apply h; rw [e]; rfl
  obtain ⟨h3, -⟩ := join_above _ _ h2
  have h4 := covZ_bad (a := (joinZ (if a = 0 then b else a) b : Nat)) (b := if a = 0 then b else a)
  cases hg : goodZ ((joinZ (if a = 0 then b else a) b : Nat) : Int) with
  | true => rfl
  | false => rw [h4 (Or.inl hg)] at h3; cases h3
theorem AskT.inv {mode c : Int} {H' : List Hol} {L' : List Lin} {W' : List Wan} (t : AskT H L W id name mode c H' L' W') (h : Inv N H L W) (hi : I64w id) (hn : name.length ≤ 1000) : Inv (N + 1) H' L' W' := by
  have h2 := h.mono (Nat.le_succ N)
  cases t with
  | arg _ => exact h2
  | same _ _ _ => exact h2
  | full _ _ _ _ => exact h2
  | busy hw hj hs hm hf v => exact h.enter hw hi hn (joinedZ_good hj) v
  | hold hw hj hs hm hf nb =>
    have h3 := h.sH
    have h4 := h.holN name
    exact h2.hold hn nb _ (by omega) (by omega)
variable {bb h l wt : Nat}
theorem Ask_any (mode : Int) (w0 w : World) (C : Asn) (hS : Aid.Own w0 No w (aBk bb h l wt H L W * C)) (ht : Tabs w0) (hi : I64w id) (hn : name.length ≤ 1000) (hv : Inv N H L W) (hN : N ≤ 100000) (hc : cnt H W ≤ 1000000) :
    Calls Tryz.prog 8 #[bPtr bb, .int .i64 id, .string (ofL name), .int .i64 mode] w fun e w' => ∃ c H' L' W', e = .returned (.int .i64 c) ∧ AskT H L W id name mode c H' L' W' ∧ Aid.Own w0 No w' (aBk bb h l wt H' L' W' * C) := by
  have ok := hv.okS hN
  have hW : W.length ≤ 100000 := by have := hv.sH; omega
  by_cases hA : (wanL W id).isSome = true ∨ joinedZ (md H id name) mode = 0
  · exact (ask_arg w0 w C hS ht hi hn hA).mono fun e w' ⟨he, ho⟩ => ⟨1, _, _, _, he, .arg hA, ho⟩
  have hw : wanL W id = none := by
    cases hx : wanL W id with
    | none => rfl
    | some y => exact absurd (Or.inl (by rw [hx]; rfl)) hA
  have hj : joinedZ (md H id name) mode ≠ 0 := fun e => hA (Or.inr e)
  by_cases hs : joinedZ (md H id name) mode = md H id name
  · exact (ask_same w0 w C hS ht hi hn hw hj hs).mono fun e w' ⟨he, ho⟩ => ⟨0, _, _, _, he, .same hw hj hs, ho⟩
  by_cases hm : md H id name = 0
  · by_cases hc3 : 300 ≤ cnt H W
    · exact (ask_full w0 w C hS ht hi hn hw hj hm hc3 hc).mono fun e w' ⟨he, ho⟩ => ⟨10, _, _, _, he, .full hw hj hm hc3, ho⟩
    · by_cases hf : blkL H W id name (joinedZ (md H id name) mode) (ids L name) = []
      · cases hx : holL H name with
        | none =>
          refine (ask_new w0 w C hS ht hi hn hw hj hs (ok.ln name) (ok.li name) hm (by omega) hf hx ok.hH).mono fun e w' ⟨he, nb, ho⟩ => ⟨0, _, _, _, he, .hold hw hj hs (Or.inr (by omega)) hf nb, ?_⟩
          unfold setH; rw [hx]; exact ho
        | some x =>
          refine (ask_hold_z w0 w C hS ht hi hn hw hj hs (ok.ln name) (ok.li name) hm (by omega) hf x hx (ok.hl x (find_key (fun x : Hol => x.1) H name x hx).1)).mono fun e w' ⟨he, ho⟩ => ⟨0, _, _, _, he, .hold hw hj hs (Or.inr (by omega)) hf 0, ?_⟩
          unfold setH; rw [hx]; exact ho
      · exact (ask_busy_z w0 w C hS ht hi hn hw hj hs (ok.ln name) (ok.li name) hm (by omega) hf ok.lL hW).mono fun e w' ⟨he, v, ho⟩ => ⟨11, _, _, _, he, .busy hw hj hs (Or.inr (by omega)) hf v, ho⟩
  · by_cases hf : blkL H W id name (joinedZ (md H id name) mode) (ids L name) = []
    · cases hx : holL H name with
      | none => exact absurd (by unfold md; rw [hx]) hm
      | some x =>
        refine (ask_hold_n w0 w C hS ht hi hn hw hj hs (ok.ln name) (ok.li name) hm hf x hx (ok.hl x (find_key (fun x : Hol => x.1) H name x hx).1)).mono fun e w' ⟨he, ho⟩ => ⟨0, _, _, _, he, .hold hw hj hs (Or.inl hm) hf 0, ?_⟩
        unfold setH; rw [hx]; exact ho
    · exact (ask_busy_n w0 w C hS ht hi hn hw hj hs (ok.ln name) (ok.li name) hm hf ok.lL hW).mono fun e w' ⟨he, v, ho⟩ => ⟨11, _, _, _, he, .busy hw hj hs (Or.inl hm) hf v, ho⟩
/-! Serving. -/
inductive Stp (ns : List By) (H0 : List Hol) (L0 : List Lin) (W0 : List Wan) : Nat → List Hol → List Lin → List Wan → List Int → Prop
  | start : Stp ns H0 L0 W0 0 H0 L0 W0 []
  | one {k H L W s} (h : Stp ns H0 L0 W0 k H L W s) (id : Int) (nb : Nat) (v : Value) (hk : k < ns.length) (hx : nxL H L W (ns.getD k []) = some id) : Stp ns H0 L0 W0 k (setH H id (ns.getD k []) (wV W id).2 nb) (lvB L id (ns.getD k []) v) (offW W id) (s ++ [id])
  | next {k H L W s} (h : Stp ns H0 L0 W0 k H L W s) (hk : k < ns.length) (hx : nxL H L W (ns.getD k []) = none) : Stp ns H0 L0 W0 (k + 1) H L W s
theorem wV_of {W : List Wan} {o : Int} {y : Wan} (h : wanL W o = some y) : wV W o = y.2 := by unfold wV; rw [h]
theorem namesL_len (L : List Lin) : (namesL L).length = L.length := by
  have hp : (namesL L).Perm (L.map (·.1)) := List.mergeSort_perm _ _
  rw [hp.length_eq, List.length_map]
theorem Stp.inv {ns : List By} {k : Nat} {H' : List Hol} {L' : List Lin} {W' : List Wan} {s : List Int} (t : Stp ns H L W k H' L' W' s) (h : Inv N H L W) : Inv N H' L' W' := by
  induction t with
  | start => exact h
  | one t id nb v hk hx ih =>
    obtain ⟨m, hm⟩ := ih.li _ _ (nxN_mem _ _ hx)
    have hv := ih.serve hm nb v
    rw [wV_of hm]
    exact hv
  | next t hk hx ih => exact ih
theorem serve_st (w0 w : World) (C : Asn) (hS : Aid.Own w0 No w (aBk bb h l wt H L W * C)) (ht : Tabs w0) (hv : Inv N H L W) (hN : N ≤ 100000) :
    Calls Tryz.prog 31 #[bPtr bb] w fun e w' => ∃ v H' L' W' s, e = .returned v ∧ Stp (namesL L) H L W L.length H' L' W' s ∧ Aid.Own w0 No w' (Asn.vec 3 1 v s.length (nums s) * (aBk bb h l wt H' L' W' * C)) :=
  serve_any w0 w C hS ht hv.ln (by have := hv.sL; omega) (by have := hv.sH; omega) (Stp (namesL L) H L W) .start
    (fun k H' L' W' s t => (t.inv hv).okS hN)
    (fun k H' L' W' s id nb v hk t hx => t.one id nb v (by rw [namesL_len]; exact hk) hx)
    (fun k H' L' W' s hk t hx => t.next (by rw [namesL_len]; exact hk) hx)
/-- Behind a Cancel. -/
inductive CanT (H : List Hol) (L : List Lin) (W : List Wan) (id : Int) : List Hol → List Lin → List Wan → List Int → Prop
  | no (hw : wanL W id = none) {H' L' W' s} (t : Stp (namesL L) H L W L.length H' L' W' s) : CanT H L W id H' L' W' s
  | yes {y : Wan} (hw : wanL W id = some y) (v : Value) {H' L' W' s} (t : Stp (namesL (lvB L id y.2.1 v)) H (lvB L id y.2.1 v) (offW W id) (lvB L id y.2.1 v).length H' L' W' s) : CanT H L W id H' L' W' s
theorem CanT.inv {H' : List Hol} {L' : List Lin} {W' : List Wan} {s : List Int} (t : CanT H L W id H' L' W' s) (h : Inv N H L W) : Inv N H' L' W' := by
  cases t with
  | no hw t => exact t.inv h
  | yes hw v t => exact t.inv (h.leave hw v)
set_option maxRecDepth 100000 in
set_option maxHeartbeats 2000000 in
theorem Cancel_any (w0 w : World) (C : Asn) (hS : Aid.Own w0 No w (aBk bb h l wt H L W * C)) (ht : Tabs w0) (hi : I64w id) (hv : Inv N H L W) (hN : N ≤ 100000) :
    Calls Tryz.prog 14 #[bPtr bb, .int .i64 id] w fun e w' => ∃ v H' L' W' s, e = .returned v ∧ CanT H L W id H' L' W' s ∧ Aid.Own w0 No w' (Asn.vec 3 1 v s.length (nums s) * (aBk bb h l wt H' L' W' * C)) := by
  cases hw : wanL W id with
  | none =>
    have HL := Lib.hid (leave_no id w (bk_of hS) hi hw)
    unfold bPtr at HL
    unfold bPtr
    go_enter Tryz.func14, Tryz.ntmps14
    go_wp2_with fail
    refine HL.out.mono ?_
    rintro e w1 ⟨rfl, hX⟩
    have HS := Lib.hid (serve_st w0 w1 C (hS.below hX) ht hv hN)
    unfold bPtr at HS
    clear hX HL hS
    go_wp2_with fail
    refine HS.out.mono ?_
    rintro e w2 ⟨v, H', L', W', s, rfl, t, hX⟩
    have S2 := Lib.hid hX
    have T2 := Lib.hid t
    clear hX HS t
    go_wp2_with fail
    go_returns
    exact ⟨v, H', L', W', s, rfl, .no hw T2.out, S2.out⟩
  | some y =>
    have ok := hv.okS hN
    obtain ⟨hm, -, hn, -⟩ := hv.wa id y hw
    have HL := Lib.hid (leave_any y id w0 w C hS hi hw hn (ok.ln _) ok.lL hm)
    unfold bPtr at HL
    unfold bPtr
    go_enter Tryz.func14, Tryz.ntmps14
    go_wp2_with fail
    refine HL.out.mono ?_
    rintro e w1 ⟨rfl, v0, hX⟩
    have HS := Lib.hid (serve_st w0 w1 C hX ht (hv.leave hw v0) hN)
    unfold bPtr at HS
    clear hX HL hS ok
    go_wp2_with fail
    refine HS.out.mono ?_
    rintro e w2 ⟨v, H', L', W', s, rfl, t, hX⟩
    have S2 := Lib.hid hX
    have T2 := Lib.hid t
    clear hX HS t
    go_wp2_with fail
    go_returns
    exact ⟨v, H', L', W', s, rfl, .yes hw v0 T2.out, S2.out⟩
theorem Drop_st (w0 w : World) (C : Asn) (hS : Aid.Own w0 No w (aBk bb h l wt H L W * C)) (ht : Tabs w0) (hi : I64w id) (hv : Inv N H L W) (hN : N ≤ 100000) :
    Calls Tryz.prog 12 #[bPtr bb, .int .i64 id] w fun e w' => ∃ v, e = .returned v ∧ ∃ Hd H' L' W' s, Hd.Perm (dropL H id) ∧ CanT Hd L W id H' L' W' s ∧ Aid.Own w0 No w' (Asn.vec 3 1 v s.length (nums s) * (aBk bb h l wt H' L' W' * C)) :=
  Drop_any id w0 w C hS hi hv.hn (hv.okS hN).hl (fun v w' => ∃ Hd H' L' W' s, Hd.Perm (dropL H id) ∧ CanT Hd L W id H' L' W' s ∧ Aid.Own w0 No w' (Asn.vec 3 1 v s.length (nums s) * (aBk bb h l wt H' L' W' * C)))
    (fun wx Hd hp hx => (Cancel_any w0 wx C hx ht hi (hv.drop hp) hN).mono fun e w' ⟨v, H', L', W', s, he, t, ho⟩ => ⟨v, he, Hd, H', L', W', s, hp, t, ho⟩)
end
end Go.Proofs.YtikdjgholjealaaGreatDoor.Lk
