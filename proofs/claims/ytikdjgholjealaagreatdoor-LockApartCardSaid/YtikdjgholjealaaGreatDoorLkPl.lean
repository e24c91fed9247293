/- No two hold what doesn't go together; who waits has somebody for whom it waits: what stays so. Plain. -/
import Derived.Test.YtikdjgholjealaaGreatDoorLkBt
namespace Go.Proofs.YtikdjgholjealaaGreatDoor.Lk
open Go.ChangeShapes Go.WideShapes Go.ChangeAt Go.RowKit Go.PlainAid Aid Md
set_option linter.unusedVariables false
set_option linter.unusedSimpArgs false
/-- What is held goes together. -/
structure Gd (H : List Hol) : Prop where
  go : ∀ name a b, a ≠ b → md H a name ≠ 0 → md H b name ≠ 0 → goesZ (md H a name) (md H b name) = true
  nd : ∀ name, ((holE H name).map Prod.fst).Nodup
  gd : ∀ name p, p ∈ holE H name → goodZ p.2 = true
/-- Who waits waits for somebody. -/
def Wt (H : List Hol) (L : List Lin) (W : List Wan) : Prop := ∀ id y, wanL W id = some y → blkO H L W y ≠ []
section
variable {N : Nat} {H H' : List Hol} {L L' : List Lin} {W W' : List Wan} {id m : Int} {name : By}
theorem mdL_of {l : List (Int × Int)} (hn : (l.map Prod.fst).Nodup) {p : Int × Int} (hp : p ∈ l) : mdL l p.1 = p.2 := by
  unfold mdL
  have ha : l.Pairwise fun x y => x.1 ≠ y.1 := List.pairwise_map.1 hn
  rw [find_in (fun x : Int × Int => x.1) ha hp]
theorem mdL_ex {l : List (Int × Int)} {a : Int} (h : mdL l a ≠ 0) : ∃ p, p ∈ l ∧ p.1 = a ∧ p.2 = mdL l a := by
  unfold mdL at h ⊢
  cases hf : l.find? (fun p => decide (p.1 = a)) with
  | none => rw [hf] at h; exact absurd rfl h
  | some p => exact ⟨p, (find_key (fun x : Int × Int => x.1) l a p hf).1, (find_key (fun x : Int × Int => x.1) l a p hf).2, rfl⟩
theorem good_ne {a : Int} (h : goodZ a = true) : a ≠ 0 := by rintro rfl; cases h
theorem blkH_nil {l : List (Int × Int)} (h : blkH l id m = []) : ∀ p, p ∈ l → p.1 ≠ id → goesZ m p.2 = true := by
  intro p hp hne
  unfold blkH at h
  rw [List.map_eq_nil_iff, List.filter_eq_nil_iff] at h
  have := h p hp
  cases hg : goesZ m p.2 with
  | true => rfl
  | false => rw [hg, decide_eq_false hne] at this; exact absurd rfl this
theorem blkL_nil {ahead : List Int} (h : blkL H W id name m ahead = []) : blkH (holE H name) id m = [] := (List.append_eq_nil_iff.1 h).1
theorem Gd.set (g : Gd H) (nb : Nat) (hg : goodZ m = true) (hf : ∀ p, p ∈ holE H name → p.1 ≠ id → goesZ m p.2 = true) : Gd (setH H id name m nb) := by
  have key : ∀ b, b ≠ id → md H b name ≠ 0 → goesZ m (md H b name) = true := by
    intro b hb hm
    rw [md_holE] at hm ⊢
    obtain ⟨p, hp, hp1, hp2⟩ := mdL_ex hm
    rw [← hp2]
    exact hf p hp (by rw [hp1]; exact hb)
  refine ⟨fun nm a b hab ha hb => ?_, fun nm => ?_, fun nm p hp => ?_⟩
  · rw [md_set] at ha hb ⊢
    rw [md_set]
    by_cases h1 : nm = name ∧ a = id
    · by_cases h2 : nm = name ∧ b = id
      · exact absurd (h1.2.trans h2.2.symm) hab
      · rw [if_pos h1, if_neg h2]
        rw [if_neg h2] at hb
        rw [h1.1] at hb ⊢
        exact key b (fun e => h2 ⟨h1.1, e⟩) hb
    · by_cases h2 : nm = name ∧ b = id
      · rw [if_neg h1, if_pos h2]
        rw [if_neg h1] at ha
        rw [h2.1] at ha ⊢
        rw [goes_turn]
        exact key a (fun e => h1 ⟨h2.1, e⟩) ha
      · rw [if_neg h1, if_neg h2]
        rw [if_neg h1] at ha
        rw [if_neg h2] at hb
        exact g.go nm a b hab ha hb
  · rw [holE_set]
    split
    · unfold setL without
      rw [List.map_cons]
      refine List.nodup_cons.2 ⟨fun hc => ?_, ?_⟩
      · obtain ⟨p, hp, e⟩ := List.mem_map.1 hc
        have := (List.mem_filter.1 hp).2
        rw [decide_eq_true (show p.1 = id from e)] at this
        cases this
      · exact (g.nd name).sublist (List.filter_sublist.map _)
    · exact g.nd nm
  · rw [holE_set] at hp
    split at hp
    · rcases List.mem_cons.1 hp with rfl | hp
      · exact hg
      · exact g.gd name p (List.mem_filter.1 hp).1
    · exact g.gd nm p hp
theorem Gd.drop (g : Gd H) (ha : Apart H) {Hd : List Hol} (hp : Hd.Perm (dropL H id)) : Gd Hd := by
  have hE : ∀ nm, holE Hd nm = without (holE H nm) id := fun nm => by
    rw [holE_perm hp.symm (drop_apart ha id), holE_drop ha]
  have hM : ∀ a nm, md Hd a nm = if a = id then 0 else md H a nm := fun a nm => by
    rw [md_holE, hE, mdL_without, md_holE]
  refine ⟨fun nm a b hab h1 h2 => ?_, fun nm => ?_, fun nm p hp2 => ?_⟩
  · rw [hM] at h1 h2 ⊢
    rw [hM]
    by_cases e1 : a = id
    · rw [if_pos e1] at h1; exact absurd rfl h1
    · by_cases e2 : b = id
      · rw [if_pos e2] at h2; exact absurd rfl h2
      · rw [if_neg e1, if_neg e2]
        rw [if_neg e1] at h1
        rw [if_neg e2] at h2
        exact g.go nm a b hab h1 h2
  · rw [hE]
    exact (g.nd nm).sublist (List.filter_sublist.map _)
  · rw [hE] at hp2
    exact g.gd nm p (List.mem_filter.1 hp2).1
theorem gd_nil : Gd [] := ⟨fun _ _ _ _ h => absurd rfl h, fun _ => List.nodup_nil, fun _ _ h => by cases h⟩
theorem wt_nil : Wt [] [] [] := fun _ _ h => by cases h
/-! A line's places. -/
theorem fx_split {l : List Int} {o : Int} (h : o ∈ l) : ∃ r, l = l.take (fx (fun z => decide (z = o)) l) ++ o :: r := by
  induction l with
  | nil => cases h
  | cons a l ih =>
    by_cases e : a = o
    · subst e
      refine ⟨l, ?_⟩
      unfold fx
      rw [List.takeWhile_cons]
      simp
    · obtain ⟨r, hr⟩ := ih ((List.mem_cons.1 h).resolve_left (fun x => e x.symm))
      refine ⟨r, ?_⟩
      have hc : fx (fun z => decide (z = o)) (a :: l) = fx (fun z => decide (z = o)) l + 1 := by
        unfold fx
        rw [List.takeWhile_cons, if_pos (by simp [e])]
        rfl
      rw [hc, List.take_succ_cons, List.cons_append]
      exact congrArg (a :: ·) hr
theorem fx_of {p r : List Int} {o : Int} (h : o ∉ p) : fx (fun z => decide (z = o)) (p ++ o :: r) = p.length := by
  induction p with
  | nil => unfold fx; simp
  | cons a p ih =>
    have h1 : a ≠ o := fun e => h (e ▸ List.mem_cons_self)
    have := ih (fun x => h (List.mem_cons_of_mem _ x))
    unfold fx at this ⊢
    rw [List.cons_append, List.takeWhile_cons, if_pos (by simp [h1]), List.length_cons, this]
    rfl
theorem nxN_all {f : Int → List Int → Bool} : ∀ (l pre : List Int), nxN f pre l = none → ∀ p o r, l = p ++ o :: r → f o (pre ++ p) = false
  | [], _, _, p, o, r, e => by simp at e
  | a :: l, pre, h, p, o, r, e => by
    unfold nxN at h
    cases hf : f a pre with
    | true => rw [hf] at h; cases h
    | false =>
      rw [hf] at h
      cases p with
      | nil =>
        rw [List.nil_append] at e
        obtain ⟨e1, e2⟩ := List.cons.inj e
        rw [List.append_nil, ← e1]; exact hf
      | cons b p =>
        rw [List.cons_append] at e
        obtain ⟨e1, e2⟩ := List.cons.inj e
        have := nxN_all l (pre ++ [a]) h p o r e2
        rw [List.append_assoc] at this
        rw [← e1]
        exact this
theorem nxN_some {f : Int → List Int → Bool} {a : Int} : ∀ (l pre : List Int), nxN f pre l = some a → ∃ p, f a p = true
  | [], _, h => by cases h
  | b :: l, pre, h => by
    unfold nxN at h
    cases hf : f b pre with
    | true => rw [hf] at h; cases h; exact ⟨pre, hf⟩
    | false => rw [hf] at h; exact nxN_some l _ h
theorem blkA_congr {ahead : List Int} (h : ∀ o, o ∈ ahead → wV W' o = wV W o) : blkA W' m ahead = blkA W m ahead :=
  List.filter_congr fun o ho => by rw [h o ho]
theorem wV_offW {o : Int} (h : o ≠ id) : wV (offW W id) o = wV W o := by
  unfold wV
  rw [wanL_off, if_neg h]
theorem wV_put {o : Int} {z : By × Int} (h : o ≠ id) : wV ((id, z) :: offW W id) o = wV W o := by
  unfold wV
  rw [wanL_put, if_neg h]
/-- What is asked of another name isn't touched. -/
theorem nxL_other (h : Inv N H L W) {y : Wan} (hw : wanL W id = some y) (nb : Nat) (v : Value) {nm : By} (hne : nm ≠ y.2.1) :
    nxL (setH H id y.2.1 m nb) (lvB L id y.2.1 v) (offW W id) nm = nxL H L W nm := by
  obtain ⟨hm, -⟩ := h.wa id y hw
  have hi : ids (lvB L id y.2.1 v) nm = ids L nm := by rw [ids_lv _ _ _ _ _ hm, if_neg hne]
  have hni : id ∉ ids L nm := fun hc => by
    obtain ⟨m2, h2⟩ := h.li nm id hc
    rw [hw] at h2
    cases h2
    exact hne rfl
  unfold nxL
  rw [hi]
  have key : ∀ (l pre : List Int), (∀ o, o ∈ l → o ∈ ids L nm) → (∀ o, o ∈ pre → o ∈ ids L nm) → nxN (canL (setH H id y.2.1 m nb) (offW W id)) pre l = nxN (canL H W) pre l := by
    intro l
    induction l with
    | nil => intro _ _ _; rfl
    | cons a l ih =>
      intro pre h1 h2
      have ha := h1 a List.mem_cons_self
      have hai : a ≠ id := fun e => hni (e ▸ ha)
      obtain ⟨ma, hma⟩ := h.li nm a ha
      have e1 : wV W a = (nm, ma) := wV_of hma
      have e2 : canL (setH H id y.2.1 m nb) (offW W id) a pre = canL H W a pre := by
        unfold canL
        rw [wV_offW hai, e1]
        have e3 : blkL (setH H id y.2.1 m nb) (offW W id) a nm ma pre = blkL H W a nm ma pre := by
          have e4 : md (setH H id y.2.1 m nb) a nm = md H a nm := by rw [md_set, if_neg (fun x => hne x.1)]
          have e5 : blkA (offW W id) ma pre = blkA W ma pre := blkA_congr (fun o ho => wV_offW (fun e => hni (by rw [← e]; exact h2 o ho)))
          unfold blkL
          rw [holE_set, if_neg hne, e4, e5]
        rw [e3]
      unfold nxN
      rw [e2, ih _ (fun o ho => h1 o (List.mem_cons_of_mem _ ho)) (fun o ho => (List.mem_append.1 ho).elim (h2 o) (fun x => by rw [List.mem_singleton.1 x]; exact ha))]
  exact key _ _ (fun _ => _root_.id) (fun _ hx => by cases hx)
theorem Stp.gd {ns : List By} {k : Nat} {s : List Int} (t : Stp ns H L W k H' L' W' s) (h : Inv N H L W) (g : Gd H) (hnd : ns.Nodup) : Gd H' ∧ ∀ j, j < k → nxL H' L' W' (ns.getD j []) = none := by
  induction t with
  | start => exact ⟨g, fun j hj => by omega⟩
  | @one k H1 L1 W1 s t id nb v hk hx ih =>
    obtain ⟨g1, hn1⟩ := ih
    have h1 := t.inv h
    obtain ⟨m, hm⟩ := h1.li _ _ (nxN_mem _ _ hx)
    obtain ⟨p, hp⟩ := nxN_some _ _ hx
    have hwv := wV_of hm
    unfold canL at hp
    rw [hwv] at hp
    have hb := blkL_nil (of_decide_eq_true hp)
    have hgm := (h1.wa id _ hm).2.2.2
    rw [hwv]
    refine ⟨g1.set nb hgm (blkH_nil hb), fun j hj => ?_⟩
    have hne : ns.getD j [] ≠ ns.getD k [] := by
      rw [List.getD_eq_getElem?_getD, List.getD_eq_getElem?_getD, List.getElem?_eq_getElem hk, List.getElem?_eq_getElem (show j < ns.length by omega)]
      simp only [Option.getD_some]
      intro e
      exact List.pairwise_iff_getElem.1 hnd j k (by omega) hk hj e
    have := nxL_other (m := m) h1 hm nb v hne
    rw [show ((id, ns.getD k [], m) : Wan).2.1 = ns.getD k [] from rfl] at this
    rw [this]
    exact hn1 j hj
  | @next k H1 L1 W1 s t hk hx ih =>
    obtain ⟨g1, hn1⟩ := ih
    refine ⟨g1, fun j hj => ?_⟩
    by_cases e : j = k
    · subst e; exact hx
    · exact hn1 j (by omega)
theorem Stp.sub {ns : List By} {k : Nat} {s : List Int} (t : Stp ns H L W k H' L' W' s) (h : Inv N H L W) : ∀ nm o, o ∈ ids L' nm → o ∈ ids L nm := by
  induction t with
  | start => exact fun _ _ => _root_.id
  | @one k H1 L1 W1 s t id nb v hk hx ih =>
    intro nm o ho
    rw [ids_lv _ _ _ _ _ (nxN_mem _ _ hx)] at ho
    split at ho
    · rename_i e
      rw [lvL_erase] at ho
      rw [e]
      exact ih _ _ (List.mem_of_mem_erase ho)
    · exact ih _ _ ho
  | next t hk hx ih => exact ih
theorem Stp.wt {s : List Int} (t : Stp (namesL L) H L W L.length H' L' W' s) (h : Inv N H L W) (g : Gd H) (hnd : (L.map (·.1)).Nodup) : Gd H' ∧ Wt H' L' W' := by
  have hpm : (namesL L).Perm (L.map (·.1)) := List.mergeSort_perm _ _
  obtain ⟨g2, hn⟩ := t.gd h g (hpm.nodup_iff.2 hnd)
  have h2 := t.inv h
  refine ⟨g2, fun id y hw he => ?_⟩
  obtain ⟨hm, -, -, -⟩ := h2.wa id y hw
  have hy1 := wanL_one hw
  have hm0 := t.sub h _ _ hm
  have hmem : y.2.1 ∈ namesL L := by
    refine hpm.mem_iff.2 ?_
    unfold ids at hm0
    cases hx : linL L y.2.1 with
    | none => rw [hx] at hm0; cases hm0
    | some x =>
      obtain ⟨h1, h2⟩ := find_key (fun x : Lin => x.1) L _ x hx
      exact List.mem_map.2 ⟨x, h1, h2⟩
  obtain ⟨j, hj, hje⟩ := List.getElem_of_mem hmem
  have hnj := hn j (by rw [← namesL_len]; exact hj)
  rw [List.getD_eq_getElem?_getD, List.getElem?_eq_getElem hj, Option.getD_some, hje] at hnj
  obtain ⟨r, hr⟩ := fx_split hm
  have := nxN_all _ _ hnj _ _ _ hr
  unfold canL at this
  rw [wV_of hw, List.nil_append] at this
  unfold blkO aheadL at he
  rw [hy1] at he
  rw [he] at this
  simp at this
theorem Stp.none {ns : List By} {k : Nat} {s : List Int} (t : Stp ns H L W k H' L' W' s) (h : Inv N H L W) (hw : wanL W id = none) (hz : ∀ nm, md H id nm = 0) : wanL W' id = none ∧ ∀ nm, md H' id nm = 0 := by
  induction t with
  | start => exact ⟨hw, hz⟩
  | @one k H1 L1 W1 s t o nb v hk hx ih =>
    obtain ⟨i1, i2⟩ := ih
    obtain ⟨m, hm⟩ := (t.inv h).li _ _ (nxN_mem _ _ hx)
    have hne : id ≠ o := by
      rintro rfl
      rw [i1] at hm; cases hm
    refine ⟨by rw [wanL_off, if_neg hne]; exact i1, fun nm => ?_⟩
    rw [md_set, if_neg (fun x => hne x.2)]
    exact i2 nm
  | next t hk hx ih => exact ih
theorem names_lv (hnd : (L.map (·.1)).Nodup) (id : Int) (name : By) (v : Value) : ((lvB L id name v).map (·.1)).Nodup := by
  have h1 : ((offL L name).map (·.1)).Nodup := hnd.sublist (List.filter_sublist.map _)
  unfold lvB
  split
  · exact h1
  · rw [List.map_cons]
    refine List.nodup_cons.2 ⟨fun hc => ?_, h1⟩
    obtain ⟨x, hx, e⟩ := List.mem_map.1 hc
    have := (List.mem_filter.1 hx).2
    rw [decide_eq_true (show x.1 = name from e)] at this
    cases this
theorem CanT.wt {s : List Int} (t : CanT H L W id H' L' W' s) (h : Inv N H L W) (g : Gd H) (hnd : (L.map (·.1)).Nodup) : Gd H' ∧ Wt H' L' W' := by
  cases t with
  | no hw t => exact t.wt h g hnd
  | yes hw v t => exact t.wt (h.leave hw v) g (names_lv hnd _ _ _)
theorem CanT.none {s : List Int} (t : CanT H L W id H' L' W' s) (h : Inv N H L W) (hz : ∀ nm, md H id nm = 0) : wanL W' id = none ∧ ∀ nm, md H' id nm = 0 := by
  cases t with
  | no hw t => exact t.none h hw hz
  | yes hw v t => exact t.none (h.leave hw v) (by rw [wanL_off, if_pos rfl]) hz
/-! Asking. -/
theorem wait_more {ahead ahead' : List Int} (hs : ∀ o, o ∈ ahead → o ∈ ahead') (hw : ∀ o, o ∈ ahead → wV W' o = wV W o) (hb : ∀ b, b ∈ blkH (holE H name) id m → ∃ c, c ∈ blkH (holE H' name) id m) (hm : md H' id name = md H id name) (h : blkL H W id name m ahead ≠ []) : blkL H' W' id name m ahead' ≠ [] := by
  intro he
  obtain ⟨h1, h2⟩ := List.append_eq_nil_iff.1 he
  apply h
  unfold blkL
  refine List.append_eq_nil_iff.2 ⟨?_, ?_⟩
  · cases hx : blkH (holE H name) id m with
    | nil => rfl
    | cons b r =>
      obtain ⟨c, hc⟩ := hb b (by rw [hx]; exact List.mem_cons_self)
      rw [h1] at hc; cases hc
  · rw [hm] at h2
    by_cases e : md H id name ≠ 0
    · rw [if_pos e]
    · rw [if_neg e] at h2 ⊢
      unfold blkA at h2 ⊢
      rw [List.filter_eq_nil_iff] at h2 ⊢
      intro o ho
      have := h2 o (hs o ho)
      rw [hw o ho] at this
      exact this
theorem ahead_mem {o : Int} (h : o ∈ aheadL L name id) : o ∈ ids L name := List.mem_of_mem_take h
theorem joined_cov {a b : Int} (h : joinedZ a b ≠ 0) : covZ (joinedZ a b) b = true ∧ (a ≠ 0 → covZ (joinedZ a b) a = true) := by
  unfold joinedZ at h ⊢
  have h2 : joinZ (if a = 0 then b else a) b ≠ 0 := by intro e; apply h; rw [e]; rfl
  obtain ⟨h3, h4⟩ := join_above _ _ h2
  refine ⟨h4, fun ha => ?_⟩
  rw [if_neg ha] at h3 ⊢
  exact h3
theorem AskT.wt {mode c : Int} (t : AskT H L W id name mode c H' L' W') (h : Inv N H L W) (g : Gd H) (hwt : Wt H L W) : Gd H' ∧ Wt H' L' W' ∧ (c = 0 → covZ (md H' id name) mode = true) ∧ (c = 11 → (wanL W' id).isSome = true) := by
  cases t with
  | arg _ => exact ⟨g, hwt, (by intro e; cases e), (by intro e; cases e)⟩
  | same hw hj hs => exact ⟨g, hwt, fun _ => hs ▸ (joined_cov hj).1, (by intro e; cases e)⟩
  | full _ _ _ _ => exact ⟨g, hwt, (by intro e; cases e), (by intro e; cases e)⟩
  | busy hw hj hs hm hf v =>
    refine ⟨g, fun o y hy => ?_, (by intro e; cases e), fun _ => by rw [wanL_put, if_pos rfl]; rfl⟩
    have hni : ∀ nm, id ∉ ids L nm := fun nm hc => by
      obtain ⟨m2, h2⟩ := h.li nm id hc
      rw [hw] at h2; cases h2
    rw [wanL_put] at hy
    by_cases e : o = id
    · subst e
      rw [if_pos rfl] at hy
      cases hy
      unfold blkO
      show blkL H _ o name (joinedZ (md H o name) mode) (aheadL _ name o) ≠ []
      by_cases hz : md H o name = 0
      · refine wait_more (ahead := ids L name) ?_ (fun z hz2 => wV_put (fun e => hni name (e ▸ hz2))) (fun b hb => ⟨b, hb⟩) rfl hf
        intro z hz2
        unfold aheadL
        rw [ids_put, if_pos rfl]
        have e2 : entH H (ids L name) o name = ids L name ++ [o] := by
          unfold entH plH
          rw [if_pos hz, List.take_length, List.drop_length, List.append_nil]
        rw [e2, fx_of (hni name), List.take_left']
        · exact hz2
        · rfl
      · intro he
        have h1 := (List.append_eq_nil_iff.1 he).1
        apply hf
        unfold blkL
        rw [h1, if_pos hz]
        rfl
    · rw [if_neg e] at hy
      have hb := hwt o y hy
      obtain ⟨hm1, -⟩ := h.wa o y hy
      have hy1 := wanL_one hy
      unfold blkO at hb ⊢
      rw [hy1] at hb ⊢
      refine wait_more (ahead := aheadL L y.2.1 o) ?_ (fun z hz2 => wV_put (fun e => hni _ (e ▸ ahead_mem hz2))) (fun b hb => ⟨b, hb⟩) rfl hb
      intro z hz2
      unfold aheadL at hz2 ⊢
      rw [ids_put]
      by_cases e2 : y.2.1 = name
      · rw [if_pos e2]
        rw [e2] at hz2 hm1
        obtain ⟨r, hr⟩ := fx_split hm1
        have hon : o ∉ (ids L name).take (fx (fun z => decide (z = o)) (ids L name)) := by
          have := h.nd name
          rw [hr, List.nodup_append] at this
          exact fun hc => this.2.2 o hc o List.mem_cons_self rfl
        generalize hp : (ids L name).take (fx (fun z => decide (z = o)) (ids L name)) = p at *
        -- the new line is the old one with one more: those ahead stay ahead
        have hen : ∃ p' r', entH H (ids L name) id name = p' ++ o :: r' ∧ o ∉ p' ∧ ∀ z, z ∈ p → z ∈ p' := by
          unfold entH
          rw [hr]
          generalize plH H (p ++ o :: r) id name = k
          by_cases hk : k ≤ p.length
          · refine ⟨p.take k ++ [id] ++ p.drop k, r, ?_, ?_, fun z hz => ?_⟩
            · rw [List.take_append_of_le_length hk, List.drop_append_of_le_length hk, List.append_assoc, List.append_assoc, List.append_assoc]
            · intro hc
              rcases List.mem_append.1 hc with hc | hc
              · rcases List.mem_append.1 hc with hc | hc
                · exact hon (List.mem_of_mem_take hc)
                · exact e (List.mem_singleton.1 hc)
              · exact hon (List.mem_of_mem_drop hc)
            · have hz2 : z ∈ p.take k ++ p.drop k := by rw [List.take_append_drop]; exact hz
              rcases List.mem_append.1 hz2 with x | x
              · exact List.mem_append_left _ (List.mem_append_left _ x)
              · exact List.mem_append_right _ x
          · obtain ⟨q, hq⟩ : ∃ q, k = p.length + (q + 1) := ⟨k - p.length - 1, by omega⟩
            refine ⟨p, r.take q ++ [id] ++ r.drop q, ?_, hon, fun z hz => hz⟩
            rw [hq, List.take_length_add_append, List.drop_length_add_append]
            simp
        obtain ⟨p', r', h1, h2, h3⟩ := hen
        rw [h1, fx_of h2, List.take_left']
        · exact h3 z hz2
        · rfl
      · rw [if_neg e2]
        exact hz2
  | hold hw hj hs hm hf nb =>
    have hgo := blkH_nil (blkL_nil hf)
    refine ⟨g.set nb (joinedZ_good hj) hgo, fun o y hy => ?_, fun _ => by rw [md_set, if_pos ⟨rfl, rfl⟩]; exact (joined_cov hj).1, (by intro e; cases e)⟩
    have hb := hwt o y hy
    have hy1 := wanL_one hy
    have hne : o ≠ id := by
      rintro rfl
      rw [hw] at hy; cases hy
    unfold blkO at hb ⊢
    rw [hy1] at hb ⊢
    refine wait_more (ahead := aheadL L y.2.1 o) (fun _ => _root_.id) (fun _ _ => rfl) ?_ (by rw [md_set, if_neg (fun x => hne x.2)]) hb
    intro b hb2
    rw [holE_set]
    by_cases e2 : y.2.1 = name
    · rw [if_pos e2]
      rw [e2] at hb2
      unfold blkH at hb2 ⊢
      obtain ⟨p, hp, rfl⟩ := List.mem_map.1 hb2
      obtain ⟨hp1, hp2⟩ := List.mem_filter.1 hp
      by_cases e3 : p.1 = id
      · refine ⟨id, List.mem_map.2 ⟨(id, joinedZ (md H id name) mode), List.mem_filter.2 ⟨List.mem_cons_self, ?_⟩, rfl⟩⟩
        have hmd : md H id name = p.2 := by rw [md_holE, ← e3]; exact mdL_of (g.nd name) hp1
        have hcv := (joined_cov hj).2 (by rw [hmd]; exact good_ne (g.gd name p hp1))
        rw [decide_eq_false (fun e => hne e.symm)]
        simp only [Bool.and_eq_true, Bool.not_eq_true'] at hp2 ⊢
        refine ⟨trivial, ?_⟩
        cases hgz : goesZ y.2.2 (joinedZ (md H id name) mode) with
        | false => rfl
        | true =>
          rw [goes_turn] at hgz
          have h4 := cov_goes _ _ _ hcv hgz
          rw [hmd, goes_turn, hp2.2] at h4
          cases h4
      · exact ⟨p.1, List.mem_map.2 ⟨p, List.mem_filter.2 ⟨List.mem_cons_of_mem _ (List.mem_filter.2 ⟨hp1, by rw [decide_eq_false e3]; rfl⟩), hp2⟩, rfl⟩⟩
    · rw [if_neg e2]
      exact ⟨b, hb2⟩
end
end Go.Proofs.YtikdjgholjealaaGreatDoor.Lk
