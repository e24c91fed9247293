/- Texts of ours, joined. -/
import Derived.Test.YteiiogaopgfpfaaNdR
import Derived.Deep.CutBlock

-- joined
section
namespace Go.Proofs.Yteiiogaopgfpfaa.Nd
open Go.ChangeShapes Go.WideShapes Go.ChangeAt Go.RowKit Go.PlainAid Aid Cr Nt
set_option linter.unusedVariables false
set_option linter.unusedSimpArgs false
end Go.Proofs.Yteiiogaopgfpfaa.Nd
end

-- joined
section
namespace Go.Proofs.Yteiiogaopgfpfaa.Nd
open Go.ChangeShapes Go.WideShapes Go.ChangeAt Go.RowKit Go.PlainAid Aid Cr Nt
set_option linter.unusedVariables false
set_option linter.unusedSimpArgs false
end Go.Proofs.Yteiiogaopgfpfaa.Nd
end

-- joined
section
namespace Go.Proofs.Yteiiogaopgfpfaa.Nd
open Go.ChangeShapes Go.WideShapes Go.ChangeAt Go.RowKit Go.PlainAid Aid Cr Nt
set_option linter.unusedVariables false
set_option linter.unusedSimpArgs false
theorem Row3.of_vec {w : World} {e : TypeId} {v : Value} {l : List Ent} (h : Vec w e 3 v l.length (cells3 l)) : Row3 w v l := by
  rcases h.forms with ⟨rfl, h0⟩ | ⟨g, cap, rfl, hg, hn, hc⟩
  · have : l = [] := List.eq_nil_of_length_eq_zero h0
    subst this
    exact Row3.nil w
  · refine ⟨_, _, rfl, by omega, Or.inr ⟨g, 0, rfl, hg, fun k x hx => ?_⟩⟩
    have key : ∀ (l : List Ent) (k : Nat) (x : Ent), l[k]? = some x → (cells3 l)[k * 3]? = some (.string (ofL x.key)) ∧ (cells3 l)[k * 3 + 1]? = some (.string (ofL x.val)) ∧ (cells3 l)[k * 3 + 2]? = some (.bool x.ghost) := by
      intro l
      induction l with
      | nil => intro k x hx; cases hx
      | cons a l ih =>
        intro k x hx
        have e : cells3 (a :: l) = .string (ofL a.key) :: .string (ofL a.val) :: .bool a.ghost :: cells3 l := by simp [cells3]
        cases k with
        | zero => simp at hx; subst hx; rw [e]; simp
        | succ k =>
          simp only [List.getElem?_cons_succ] at hx
          have := ih k x hx
          rw [e, show (k + 1) * 3 = k * 3 + 1 + 1 + 1 by omega]
          simpa using this
    obtain ⟨h1, h2, h3⟩ := key l k x hx
    rw [Nat.zero_add]
    exact ⟨h.cell h1, h.cell h2, h.cell h3⟩
theorem ents_at {w0 w : World} {O0 : Nat → Prop} {n : Nod} {v : Value} (h : Own w0 O0 w (aEnts n v)) : NodAt w (.agg (nodCells n v)) n :=
  ⟨_, rfl, Row3.of_vec h.addEmp.vec⟩
theorem none_ents {w0 w : World} {O0 : Nat → Prop} {A : Asn} (h : Own w0 O0 w A) : Own w0 O0 w (aEnts Nod.none (.slice none 0 0) * A) := h.nilVec 44 3
end Go.Proofs.Yteiiogaopgfpfaa.Nd
end

-- joined
section
namespace Go.Proofs.Yteiiogaopgfpfaa.Nd
open Go.ChangeShapes Go.WideShapes Go.ChangeAt Go.RowKit Go.PlainAid Aid Cr Nt
set_option linter.unusedVariables false
set_option linter.unusedSimpArgs false
theorem bld_zero {w0 w : World} {O0 : Nat → Prop} {A : Asn} {g : Nat} {T : TypeId} (h : Own w0 O0 w (Asn.blk g T #[.pointer none, .slice none 0 0] * A)) : Own w0 O0 w (aBld T g [] * A) := by
  have h3 : Own w0 O0 w ((aBlk T g (.pointer none) (.slice none 0 0) * Asn.vec 5 1 (.slice none 0 0) 0 []) * A) := (h.nilVec 5 1).assoc'.imp (Imp.l (fun _ _ => sep_comm))
  exact h3.imp (Imp.l fun w O h => ⟨(false, .slice none 0 0), h⟩)
set_option maxRecDepth 100000 in
set_option maxHeartbeats 4000000 in
theorem Lead_any (k : ByteArray) (page : Int) (w : World) :
    Calls Try.prog 58 #[.string k, .int .i64 page] w fun e w' => e = .returned (.agg #[.string k, .string (ofL (numZ 2 page)), .bool false]) ∧ Below w.heap.size w w' := by
  have hsz : ∀ cs T, (w.alloc (.cells cs T)).heap.size = w.heap.size + 1 := fun cs T => by simp
  have S := ((Own.none w).alloc #[.string ⟨#[]⟩, .string ⟨#[]⟩, .bool false] 44).left.alloc #[.pointer none, .slice none 0 0] 139
  rw [hsz] at S
  have S := Lib.hid (bld_zero S)
  have HN := Lib.hid (fun g => tNumZ g [] page 2 (by decide))
  have HQ := Lib.hid (fun g => bString 139 g (numZ 2 page) (by simp [numZ]))
  clear hsz
  rw [List.nil_append] at HN
  generalize numZ 2 page = l at *
  generalize ofL l = x at *
  unfold bPtr at *
  go_enter Try.func58, Try.ntmps58
  go_upto_region 2 with fail
  obtain ⟨g5, hg5⟩ : ∃ g, g = w.heap.size + 1 := ⟨_, rfl⟩
  rw [← hg5] at S ⊢
  obtain ⟨g4, hg4⟩ : ∃ g, g = w.heap.size := ⟨_, rfl⟩
  rw [← hg4] at S ⊢
  clear hg4 hg5
  generalize (w.alloc _).alloc _ = w1 at *
  go_wp2_with fail
  refine (S.out.call ((HN.out g5).l)).mono ?_
  rintro e w2 ⟨rfl, hX⟩
  have S1 := Lib.hid hX
  clear hX S 
  go_wp2_with fail
  refine (S1.out.call ((HQ.out g5).l)).mono ?_
  rintro e w3 ⟨rfl, hX⟩
  have S2 := Lib.hid hX
  clear hX S1 
  have S3 := Lib.hid S2.out.comm
  obtain ⟨c0, c1, c2⟩ := ent_cells (S3.out.has (Has.l (has_blk _ _ _)))
  have f0 := (S3.out.has (Has.l (has_blk _ _ _))).free 0
  have f1 := (S3.out.has (Has.l (has_blk _ _ _))).free 1
  have f2 := (S3.out.has (Has.l (has_blk _ _ _))).free 2
  go_wp2_with fail
  have S4 := Lib.hid (own_three S3.out (.string k) (.string x) (.bool false))
  clear S2 S3 c0 c1 c2 f0 f1 f2
  generalize World.setCell (World.setCell (World.setCell w3 _ _) _ _) _ _ = w4 at *
  obtain ⟨c0, c1, c2⟩ := ent_cells (S4.out.has (Has.l (has_blk _ _ _)))
  exact bodyPost_ret (v := .agg #[.string k, .string x, .bool false]) (by simp [results, Try.results58, go_sem, c0, c1, c2]) rfl ⟨rfl, S4.out.bel⟩
set_option maxRecDepth 100000 in
set_option maxHeartbeats 4000000 in
theorem Child_any (e : Ent) (w : World) :
    Calls Try.prog 19 #[.agg (entCells e)] w fun r w' => r = .returned (.int .i64 (childL e.val)) ∧ Below w.heap.size w w' := by
  have S := Lib.hid ((Own.none w).alloc (entCells e) 44)
  have HN := Lib.hid (fun g => tPnum g 2 ⟨e.val, false⟩ (by omega))
  have hz : (ofL e.val).size = e.val.length := rfl
  unfold childL entCells at *
  by_cases h2 : e.val.length = 2
  · have h1 : (pnum 2 ⟨e.val, false⟩).1 = unnum e.val := by unfold pnum tk; rw [if_neg (by show ¬ e.val.length < 2; omega)]; show unnum (e.val.take 2) = _; rw [List.take_of_length_le (by omega)]
    rw [if_pos h2]
    rw [h1] at HN
    have hz2 : (ofL e.val).size = 2 := h2
    generalize (pnum 2 ⟨e.val, false⟩).2 = st at *
    unfold aR aSt at HN
    dsimp only at HN
    clear h1 hz h2
    generalize ofL e.val = x at *
    generalize ofL e.key = y at *
    generalize unnum e.val = u at *
    unfold bPtr at *
    go_enter Try.func19, Try.ntmps19
    go_upto_region 1 with fail
    obtain ⟨g1, hg1⟩ : ∃ g, g = w.heap.size := ⟨_, rfl⟩
    rw [← hg1] at S ⊢
    clear hg1
    generalize w.alloc _ = w1 at *
    obtain ⟨-, c1, -⟩ := ent_cells (S.out.has (Has.l (has_blk _ _ _)))
    have S1 := Lib.hid (S.out.alloc #[.string x, .bool false] 109)
    go_upto_region 4 with fail
    obtain ⟨g3, hg3⟩ : ∃ g, g = w1.heap.size := ⟨_, rfl⟩
    rw [← hg3] at S1 ⊢
    clear hg3 S
    generalize w1.alloc _ = w2 at *
    clear c1
    go_wp2_with fail
    refine (S1.out.call ((HN.out g3).l)).mono ?_
    rintro e w3 ⟨rfl, hX⟩
    have S2 := Lib.hid hX
    clear hX S1 
    go_wp2_with fail
    go_returns
    exact ⟨rfl, S2.out.bel⟩
  · rw [if_neg h2]
    have hz2 : ¬ ((ofL e.val).size : Int) = 2 := by omega
    have hz3 : (((ofL e.val).size : Int) != 2) = true := by simp only [bne_iff_ne, ne_eq]; exact hz2
    clear hz h2 HN
    generalize ofL e.val = x at *
    generalize ofL e.key = y at *
    go_enter Try.func19, Try.ntmps19
    go_upto_region 1 with fail
    obtain ⟨g1, hg1⟩ : ∃ g, g = w.heap.size := ⟨_, rfl⟩
    rw [← hg1] at S ⊢
    clear hg1
    generalize w.alloc _ = w1 at *
    obtain ⟨-, c1, -⟩ := ent_cells (S.out.has (Has.l (has_blk _ _ _)))
    go_wp2_with fail
    go_returns
    exact ⟨rfl, S.out.bel⟩
end Go.Proofs.Yteiiogaopgfpfaa.Nd
end

-- joined
section
namespace Go.Proofs.Yteiiogaopgfpfaa.Bk
open Nt Nd
set_option linter.unusedVariables false
/-- What the shelf has. -/
abbrev Sf := Nat → Nod
def at_ (S : Sf) (p : Int) : Option Nod := if 0 ≤ p ∧ p < 256 then some (S p.toNat) else none
/-- What a visit comes to: how many nodes may still be seen, the error, the page, its node. -/
structure Vi where
  left : Nat
  err : Nat
  pg : Int
  nd : Nod
def no (left err : Nat) : Vi := ⟨left, err, 0, Nod.none⟩
def vis (S : Sf) : Nat → Int → Vi
  | 0, _ => no 0 3
  | l + 1, p => match at_ S p with
    | none => no l 1
    | some n => ⟨l, 0, p, n⟩
/-- Whether one goes on to the right. -/
def onB (key : By) (n : Nod) : Bool := !cov n key && decide (n.right ≠ 0)
def rgt (S : Sf) (key : By) : Nat → Int → Nod → Vi
  | 0, p, n => if onB key n then no 0 3 else ⟨0, 0, p, n⟩
  | l + 1, p, n => if onB key n then (match at_ S n.right with
    | none => no l 1
    | some m => rgt S key l n.right m) else ⟨l + 1, 0, p, n⟩
def leadsB (e : Ent) : Bool := decide (numZ 2 (childL e.val) = e.val)
def blw (S : Sf) (left : Nat) (n : Nod) (i : Int) : Vi :=
  if i < 0 ∨ n.level < 1 then no left 3 else match n.list[i.toNat]? with
  | none => no left 3
  | some e => if leadsB e then
      (let v := vis S left (childL e.val)
       if v.err = 0 then (if v.nd.level = n.level - 1 then v else no v.left 3) else no v.left v.err)
    else no left 3
def sk (S : Sf) (level : Int) (key : By) : Nat → Vi → List (Int × Nod) → Nat × Nat × List (Int × Nod)
  | 0, v, _ => (v.left, 3, [])
  | f + 1, v, path =>
    if v.err = 0 then
      (let s := rgt S key v.left v.pg v.nd
       if s.err = 0 then
         (if s.nd.level = level then (s.left, 0, path ++ [(s.pg, s.nd)])
          else if s.nd.level < level then (s.left, 3, [])
          else sk S level key f (blw S s.left s.nd (lastLe s.nd.list key s.nd.list.length)) (path ++ [(s.pg, s.nd)]))
       else (s.left, s.err, []))
    else (v.left, v.err, [])
def seek (S : Sf) (left : Nat) (root level : Int) (key : By) : Nat × Nat × List (Int × Nod) := sk S level key 300 (vis S left root) []
theorem vis_succ (S : Sf) (l : Nat) (p : Int) : vis S (l + 1) p = match at_ S p with
    | none => no l 1
    | some n => ⟨l, 0, p, n⟩ := rfl
theorem rgt_succ (S : Sf) (key : By) (l : Nat) (p : Int) (n : Nod) : rgt S key (l + 1) p n = if onB key n then (match at_ S n.right with
    | none => no l 1
    | some m => rgt S key l n.right m) else ⟨l + 1, 0, p, n⟩ := rfl
theorem rgt_zero (S : Sf) (key : By) (p : Int) (n : Nod) : rgt S key 0 p n = if onB key n then no 0 3 else ⟨0, 0, p, n⟩ := rfl
theorem vis_left (S : Sf) (l : Nat) (p : Int) : (vis S l p).left ≤ l := by
  cases l with
  | zero => exact Nat.le_refl _
  | succ l =>
    rw [vis_succ]
    cases at_ S p with
    | none => exact Nat.le_succ _
    | some n => exact Nat.le_succ _
theorem vis_less (S : Sf) (l : Nat) (p : Int) (h : (vis S l p).err = 0) : (vis S l p).left + 1 = l := by
  cases l with
  | zero => cases h
  | succ l =>
    rw [vis_succ] at h ⊢
    cases hp : at_ S p with
    | none => rw [hp] at h; cases h
    | some n => rfl
theorem rgt_left (S : Sf) (key : By) : ∀ (l : Nat) (p : Int) (n : Nod), (rgt S key l p n).left ≤ l
  | 0, p, n => by rw [rgt_zero]; split <;> exact Nat.le_refl _
  | l + 1, p, n => by
    rw [rgt_succ]
    split
    · cases at_ S n.right with
      | none => exact Nat.le_succ _
      | some m => exact Nat.le_trans (rgt_left S key l _ _) (Nat.le_succ _)
    · exact Nat.le_refl _
theorem blw_left (S : Sf) (l : Nat) (n : Nod) (i : Int) : (blw S l n i).left ≤ l := by
  unfold blw
  split
  · exact Nat.le_refl _
  · split
    · exact Nat.le_refl _
    · split
      · dsimp only
        split
        · split
          · exact vis_left ..
          · exact vis_left ..
        · exact vis_left ..
      · exact Nat.le_refl _
theorem blw_less (S : Sf) (l : Nat) (n : Nod) (i : Int) (h : (blw S l n i).err = 0) : (blw S l n i).left + 1 = l := by
  unfold blw at h ⊢
  split
  · rename_i c; rw [if_pos c] at h; cases h
  · rename_i c
    rw [if_neg c] at h
    split
    · rename_i e; rw [e] at h; cases h
    · rename_i e he
      rw [he] at h
      dsimp only at h ⊢
      split
      · rename_i hl
        rw [if_pos hl] at h
        split
        · rename_i h1
          rw [if_pos h1] at h
          split
          · exact vis_less S l _ h1
          · rename_i h2; rw [if_neg h2] at h; cases h
        · rename_i h1; rw [if_neg h1] at h; exact absurd h h1
      · rename_i hl; rw [if_neg hl] at h; cases h
end Go.Proofs.Yteiiogaopgfpfaa.Bk
end
