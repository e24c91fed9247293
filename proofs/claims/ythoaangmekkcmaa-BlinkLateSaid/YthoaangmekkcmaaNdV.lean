/- Texts of ours, joined. -/
import Derived.Test.YthoaangmekkcmaaNdR
import Derived.Deep.CutBlock
import Derived.Test.YthoaangmekkcmaaVec
import Derived.Lib.AppendZerosOnto
import Derived.Lib.Overlaps
import Derived.Lib.SliceRun
import Derived.Laws.CopyRow

-- joined
section
namespace Go.Proofs.Ythoaangmekkcmaa.Nd
open Go.ChangeShapes Go.WideShapes Go.ChangeAt Go.RowKit Go.PlainAid Aid Cr Nt
set_option linter.unusedVariables false
set_option linter.unusedSimpArgs false
end Go.Proofs.Ythoaangmekkcmaa.Nd
end

-- joined
section
namespace Go.Proofs.Ythoaangmekkcmaa.Nd
open Go.ChangeShapes Go.WideShapes Go.ChangeAt Go.RowKit Go.PlainAid Aid Cr Nt
set_option linter.unusedVariables false
set_option linter.unusedSimpArgs false
end Go.Proofs.Ythoaangmekkcmaa.Nd
end

-- joined
section
namespace Go.Proofs.Ythoaangmekkcmaa.Nd
open Go.ChangeShapes Go.WideShapes Go.ChangeAt Go.RowKit Go.PlainAid Aid Cr Nt
set_option linter.unusedVariables false
set_option linter.unusedSimpArgs false
theorem Row3.of_vec {w : World} {e : TypeId} {v : Value} {l : List Ent} (h : Vec w e 3 v l.length (cells3 l)) : Row3 w v l := by
  rcases h.forms with ⟨rfl, h0⟩ | ⟨g, cap, rfl, hg, hn, hc⟩
  · have : l = [] := List.eq_nil_of_length_eq_zero h0
    subst this
    exact Row3.nil w
  · refine ⟨_, _, rfl, by omega, Or.inr ⟨g, 0, rfl, hg, fun k x hx => ?_⟩⟩
    have key : ∀ (l : List Ent) (k : Nat) (x : Ent), l[k]? = some x → (cells3 l)[k * 3]? = some (.string (ofL x.key)) ∧ (cells3 l)[k * 3 + 1]? = some (.string (ofL x.val)) ∧ (cells3 l)[k * 3 + 2]? = some (.bool x.ghost) := by
      intro l
      induction l with
      | nil => intro k x hx; cases hx
      | cons a l ih =>
        intro k x hx
        have e : cells3 (a :: l) = .string (ofL a.key) :: .string (ofL a.val) :: .bool a.ghost :: cells3 l := by simp [cells3]
        cases k with
        | zero => simp at hx; subst hx; rw [e]; simp
        | succ k =>
          simp only [List.getElem?_cons_succ] at hx
          have := ih k x hx
          rw [e, show (k + 1) * 3 = k * 3 + 1 + 1 + 1 by omega]
          simpa using this
    obtain ⟨h1, h2, h3⟩ := key l k x hx
    rw [Nat.zero_add]
    exact ⟨h.cell h1, h.cell h2, h.cell h3⟩
theorem ents_at {w0 w : World} {O0 : Nat → Prop} {n : Nod} {v : Value} (h : Own w0 O0 w (aEnts n v)) : NodAt w (.agg (nodCells n v)) n :=
  ⟨_, rfl, Row3.of_vec h.addEmp.vec⟩
theorem none_ents {w0 w : World} {O0 : Nat → Prop} {A : Asn} (h : Own w0 O0 w A) : Own w0 O0 w (aEnts Nod.none (.slice none 0 0) * A) := h.nilVec 44 3
end Go.Proofs.Ythoaangmekkcmaa.Nd
end

-- joined
section
namespace Go.Proofs.Ythoaangmekkcmaa.Nd
open Go.ChangeShapes Go.WideShapes Go.ChangeAt Go.RowKit Go.PlainAid Aid Cr Nt
set_option linter.unusedVariables false
set_option linter.unusedSimpArgs false
theorem bld_zero {w0 w : World} {O0 : Nat → Prop} {A : Asn} {g : Nat} {T : TypeId} (h : Own w0 O0 w (Asn.blk g T #[.pointer none, .slice none 0 0] * A)) : Own w0 O0 w (aBld T g [] * A) := by
  have h3 : Own w0 O0 w ((aBlk T g (.pointer none) (.slice none 0 0) * Asn.vec 5 1 (.slice none 0 0) 0 []) * A) := (h.nilVec 5 1).assoc'.imp (Imp.l (fun _ _ => sep_comm))
  exact h3.imp (Imp.l fun w O h => ⟨(false, .slice none 0 0), h⟩)
set_option maxRecDepth 100000 in
set_option maxHeartbeats 4000000 in
theorem Lead_any (k : ByteArray) (page : Int) (w : World) :
    Calls Try.prog 57 #[.string k, .int .i64 page] w fun e w' => e = .returned (.agg #[.string k, .string (ofL (numZ 2 page)), .bool false]) ∧ Below w.heap.size w w' := by
  have hsz : ∀ cs T, (w.alloc (.cells cs T)).heap.size = w.heap.size + 1 := fun cs T => by simp
  have S := ((Own.none w).alloc #[.string ⟨#[]⟩, .string ⟨#[]⟩, .bool false] 44).left.alloc #[.pointer none, .slice none 0 0] 139
  rw [hsz] at S
  have S := Lib.hid (bld_zero S)
  have HN := Lib.hid (fun g => tNumZ g [] page 2 (by decide))
  have HQ := Lib.hid (fun g => bString 139 g (numZ 2 page) (by simp [numZ]))
  clear hsz
  rw [List.nil_append] at HN
  generalize numZ 2 page = l at *
  generalize ofL l = x at *
  unfold bPtr at *
  go_enter Try.func57, Try.ntmps57
  go_upto_region 2 with fail
  obtain ⟨g5, hg5⟩ : ∃ g, g = w.heap.size + 1 := ⟨_, rfl⟩
  rw [← hg5] at S ⊢
  obtain ⟨g4, hg4⟩ : ∃ g, g = w.heap.size := ⟨_, rfl⟩
  rw [← hg4] at S ⊢
  clear hg4 hg5
  generalize (w.alloc _).alloc _ = w1 at *
  go_wp2_with fail
  refine (S.out.call ((HN.out g5).l)).mono ?_
  rintro e w2 ⟨rfl, hX⟩
  have S1 := Lib.hid hX
  clear hX S 
  go_wp2_with fail
  refine (S1.out.call ((HQ.out g5).l)).mono ?_
  rintro e w3 ⟨rfl, hX⟩
  have S2 := Lib.hid hX
  clear hX S1 
  have S3 := Lib.hid S2.out.comm
  obtain ⟨c0, c1, c2⟩ := ent_cells (S3.out.has (Has.l (has_blk _ _ _)))
  have f0 := (S3.out.has (Has.l (has_blk _ _ _))).free 0
  have f1 := (S3.out.has (Has.l (has_blk _ _ _))).free 1
  have f2 := (S3.out.has (Has.l (has_blk _ _ _))).free 2
  go_wp2_with fail
  have S4 := Lib.hid (own_three S3.out (.string k) (.string x) (.bool false))
  clear S2 S3 c0 c1 c2 f0 f1 f2
  generalize World.setCell (World.setCell (World.setCell w3 _ _) _ _) _ _ = w4 at *
  obtain ⟨c0, c1, c2⟩ := ent_cells (S4.out.has (Has.l (has_blk _ _ _)))
  exact bodyPost_ret (v := .agg #[.string k, .string x, .bool false]) (by simp [results, Try.results57, go_sem, c0, c1, c2]) rfl ⟨rfl, S4.out.bel⟩
set_option maxRecDepth 100000 in
set_option maxHeartbeats 4000000 in
theorem Child_any (e : Ent) (w : World) :
    Calls Try.prog 20 #[.agg (entCells e)] w fun r w' => r = .returned (.int .i64 (childL e.val)) ∧ Below w.heap.size w w' := by
  have S := Lib.hid ((Own.none w).alloc (entCells e) 44)
  have HN := Lib.hid (fun g => tPnum g 2 ⟨e.val, false⟩ (by omega))
  have hz : (ofL e.val).size = e.val.length := rfl
  unfold childL entCells at *
  by_cases h2 : e.val.length = 2
  · have h1 : (pnum 2 ⟨e.val, false⟩).1 = unnum e.val := by unfold pnum tk; rw [if_neg (by show ¬ e.val.length < 2; omega)]; show unnum (e.val.take 2) = _; rw [List.take_of_length_le (by omega)]
    rw [if_pos h2]
    rw [h1] at HN
    have hz2 : (ofL e.val).size = 2 := h2
    generalize (pnum 2 ⟨e.val, false⟩).2 = st at *
    unfold aR aSt at HN
    dsimp only at HN
    clear h1 hz h2
    generalize ofL e.val = x at *
    generalize ofL e.key = y at *
    generalize unnum e.val = u at *
    unfold bPtr at *
    go_enter Try.func20, Try.ntmps20
    go_upto_region 1 with fail
    obtain ⟨g1, hg1⟩ : ∃ g, g = w.heap.size := ⟨_, rfl⟩
    rw [← hg1] at S ⊢
    clear hg1
    generalize w.alloc _ = w1 at *
    obtain ⟨-, c1, -⟩ := ent_cells (S.out.has (Has.l (has_blk _ _ _)))
    have S1 := Lib.hid (S.out.alloc #[.string x, .bool false] 111)
    go_upto_region 4 with fail
    obtain ⟨g3, hg3⟩ : ∃ g, g = w1.heap.size := ⟨_, rfl⟩
    rw [← hg3] at S1 ⊢
    clear hg3 S
    generalize w1.alloc _ = w2 at *
    clear c1
    go_wp2_with fail
    refine (S1.out.call ((HN.out g3).l)).mono ?_
    rintro e w3 ⟨rfl, hX⟩
    have S2 := Lib.hid hX
    clear hX S1 
    go_wp2_with fail
    go_returns
    exact ⟨rfl, S2.out.bel⟩
  · rw [if_neg h2]
    have hz2 : ¬ ((ofL e.val).size : Int) = 2 := by omega
    have hz3 : (((ofL e.val).size : Int) != 2) = true := by simp only [bne_iff_ne, ne_eq]; exact hz2
    clear hz h2 HN
    generalize ofL e.val = x at *
    generalize ofL e.key = y at *
    go_enter Try.func20, Try.ntmps20
    go_upto_region 1 with fail
    obtain ⟨g1, hg1⟩ : ∃ g, g = w.heap.size := ⟨_, rfl⟩
    rw [← hg1] at S ⊢
    clear hg1
    generalize w.alloc _ = w1 at *
    obtain ⟨-, c1, -⟩ := ent_cells (S.out.has (Has.l (has_blk _ _ _)))
    go_wp2_with fail
    go_returns
    exact ⟨rfl, S.out.bel⟩
end Go.Proofs.Ythoaangmekkcmaa.Nd
end

-- joined
section
namespace Go.Proofs.Ythoaangmekkcmaa.Bk
open Nt Nd
set_option linter.unusedVariables false
/-- What the shelf has. -/
abbrev Sf := Nat → Nod
def at_ (S : Sf) (p : Int) : Option Nod := if 0 ≤ p ∧ p < 256 then some (S p.toNat) else none
/-- What a visit comes to: how many nodes may still be seen, the error, the page, its node. -/
structure Vi where
  left : Nat
  err : Nat
  pg : Int
  nd : Nod
def no (left err : Nat) : Vi := ⟨left, err, 0, Nod.none⟩
def vis (S : Sf) : Nat → Int → Vi
  | 0, _ => no 0 3
  | l + 1, p => match at_ S p with
    | none => no l 1
    | some n => ⟨l, 0, p, n⟩
/-- Whether one goes on to the right. -/
def onB (key : By) (n : Nod) : Bool := !cov n key && decide (n.right ≠ 0)
def rgt (S : Sf) (key : By) : Nat → Int → Nod → Vi
  | 0, p, n => if onB key n then no 0 3 else ⟨0, 0, p, n⟩
  | l + 1, p, n => if onB key n then (match at_ S n.right with
    | none => no l 1
    | some m => rgt S key l n.right m) else ⟨l + 1, 0, p, n⟩
def leadsB (e : Ent) : Bool := decide (numZ 2 (childL e.val) = e.val)
def blw (S : Sf) (left : Nat) (n : Nod) (i : Int) : Vi :=
  if i < 0 ∨ n.level < 1 then no left 3 else match n.list[i.toNat]? with
  | none => no left 3
  | some e => if leadsB e then
      (let v := vis S left (childL e.val)
       if v.err = 0 then (if v.nd.level = n.level - 1 then v else no v.left 3) else no v.left v.err)
    else no left 3
def sk (S : Sf) (level : Int) (key : By) : Nat → Vi → List (Int × Nod) → Nat × Nat × List (Int × Nod)
  | 0, v, _ => (v.left, 3, [])
  | f + 1, v, path =>
    if v.err = 0 then
      (let s := rgt S key v.left v.pg v.nd
       if s.err = 0 then
         (if s.nd.level = level then (s.left, 0, path ++ [(s.pg, s.nd)])
          else if s.nd.level < level then (s.left, 3, [])
          else sk S level key f (blw S s.left s.nd (lastLe s.nd.list key s.nd.list.length)) (path ++ [(s.pg, s.nd)]))
       else (s.left, s.err, []))
    else (v.left, v.err, [])
def seek (S : Sf) (left : Nat) (root level : Int) (key : By) : Nat × Nat × List (Int × Nod) := sk S level key 300 (vis S left root) []
theorem vis_succ (S : Sf) (l : Nat) (p : Int) : vis S (l + 1) p = match at_ S p with
    | none => no l 1
    | some n => ⟨l, 0, p, n⟩ := rfl
theorem rgt_succ (S : Sf) (key : By) (l : Nat) (p : Int) (n : Nod) : rgt S key (l + 1) p n = if onB key n then (match at_ S n.right with
    | none => no l 1
    | some m => rgt S key l n.right m) else ⟨l + 1, 0, p, n⟩ := rfl
theorem rgt_zero (S : Sf) (key : By) (p : Int) (n : Nod) : rgt S key 0 p n = if onB key n then no 0 3 else ⟨0, 0, p, n⟩ := rfl
theorem vis_left (S : Sf) (l : Nat) (p : Int) : (vis S l p).left ≤ l := by
  cases l with
  | zero => exact Nat.le_refl _
  | succ l =>
    rw [vis_succ]
    cases at_ S p with
    | none => exact Nat.le_succ _
    | some n => exact Nat.le_succ _
theorem vis_less (S : Sf) (l : Nat) (p : Int) (h : (vis S l p).err = 0) : (vis S l p).left + 1 = l := by
  cases l with
  | zero => cases h
  | succ l =>
    rw [vis_succ] at h ⊢
    cases hp : at_ S p with
    | none => rw [hp] at h; cases h
    | some n => rfl
theorem rgt_left (S : Sf) (key : By) : ∀ (l : Nat) (p : Int) (n : Nod), (rgt S key l p n).left ≤ l
  | 0, p, n => by rw [rgt_zero]; split <;> exact Nat.le_refl _
  | l + 1, p, n => by
    rw [rgt_succ]
    split
    · cases at_ S n.right with
      | none => exact Nat.le_succ _
      | some m => exact Nat.le_trans (rgt_left S key l _ _) (Nat.le_succ _)
    · exact Nat.le_refl _
theorem blw_left (S : Sf) (l : Nat) (n : Nod) (i : Int) : (blw S l n i).left ≤ l := by
  unfold blw
  split
  · exact Nat.le_refl _
  · split
    · exact Nat.le_refl _
    · split
      · dsimp only
        split
        · split
          · exact vis_left ..
          · exact vis_left ..
        · exact vis_left ..
      · exact Nat.le_refl _
theorem blw_less (S : Sf) (l : Nat) (n : Nod) (i : Int) (h : (blw S l n i).err = 0) : (blw S l n i).left + 1 = l := by
  unfold blw at h ⊢
  split
  · rename_i c; rw [if_pos c] at h; cases h
  · rename_i c
    rw [if_neg c] at h
    split
    · rename_i e; rw [e] at h; cases h
    · rename_i e he
      rw [he] at h
      dsimp only at h ⊢
      split
      · rename_i hl
        rw [if_pos hl] at h
        split
        · rename_i h1
          rw [if_pos h1] at h
          split
          · exact vis_less S l _ h1
          · rename_i h2; rw [if_neg h2] at h; cases h
        · rename_i h1; rw [if_neg h1] at h; exact absurd h h1
      · rename_i hl; rw [if_neg hl] at h; cases h
end Go.Proofs.Ythoaangmekkcmaa.Bk
end

-- joined
section
namespace Go.Proofs.Ythoaangmekkcmaa.Aid
open Go.ChangeShapes Go.WideShapes Go.ChangeAt Go.RowKit Go.PlainAid
set_option linter.unusedVariables false
set_option linter.unusedSimpArgs false
section
variable {P : Program}
/-- The list, with others in the place of some from o on. -/
def lay (cur : List Value) (o : Nat) (cs : List Value) : List Value := cur.take o ++ cs ++ cur.drop (o + cs.length)
theorem lay_len (cur : List Value) (o : Nat) (cs : List Value) (h : o + cs.length ≤ cur.length) : (lay cur o cs).length = cur.length := by
  simp only [lay, List.length_append, List.length_take, List.length_drop]; omega
theorem run_copy_rows (w : World) (dT sT ty e : TypeId) (size : Nat) (g o dLen dCap : Nat) (a : Addr) (sLen sCap : Nat) (cur : List Value) (t : TypeId) (cs : List Value)
    (hu : P.underlying dT = some (.slice e)) (hs : (P.info? e).map (·.size) = some size)
    (hg : w.heap[g]? = some (.cells cur.toArray t (0, 0))) (hn : cs.length = Nat.min sLen dLen * size)
    (hsrc : ∀ j v, cs[j]? = some v → w.cell? (a.add j) = some v) (hfit : o + cs.length ≤ cur.length) (h1 : ∀ v ∈ cs, v.oneCell' = true) :
    (Builtin.copy_ #[dT, sT] ty #[.slice (some ⟨g, o, none⟩) dLen dCap, .slice (some a) sLen sCap]).run P w =
      .ok (goInt (Nat.min sLen dLen : Nat)) (w.setRow g (lay cur o cs).toArray) := by
  have hl := run_loadCells_list (P := P) w a cs hsrc
  have hst := run_storeCells_at P g o t cs 0 cur.toArray w hg (by simpa using hfit) h1
  simp only [Nat.add_zero] at hst
  cases hq : P.info? e with
  | none => simp [hq] at hs
  | some i =>
    have hi : i.size = size := by simpa [hq] using hs
    have hn' : cs.length = Nat.min sLen dLen * i.size := by rw [hi]; exact hn
    simp [Builtin.copy_, run_underlying hu, Builtin.lenOf, Builtin.firstCells, sizeOf, typeInfo, hq, ← hn', hl, hst, lay]
end
section
variable {P : Program}
/-- A call of copy, append or clear (F) whose run is known: as a step of the walk, and of a region that draws. -/
theorem list_known {w : World} {ops : Array Oper} {rest : List Oper} {o : Oper} {a : Act} {Q : Exit → Act → World → Prop} (hgd : o.guard = none) (b : Builtin) (F : Array TypeId → TypeId → Array Value → Sem Value)
    (hb : ∀ ts t cs vs, builtin b ts t cs vs = (do pure (.value (← F ts t vs)))) (args : Array Operand) (ts : Array TypeId)
    (ho : o.op = .call { callee := .builtin b, args := args, argTypes := ts }) (vs : Array Value) (hv : args.map a.eval = vs) {v' : Value} {w' : World}
    (hr : (F ts o.type vs).run P w = .ok v' w') (h : wpList P ops Q rest (a.put o.dst v') w') : wpList P ops Q (o :: rest) a w := by
  refine wpList_plain hgd fun K hK => ?_
  unfold Oper.wp execOp
  simp only [ho, resolve, invoke, hb, Sem.run_bind, Sem.run_pure, Result.andThen_ok, hv, hr]
  exact hK _ _ h
theorem step_known {ops : Array Oper} {o : Oper} {a : Act} {w : World} {K : Act → World → Prop} {Q : Exit → Act → World → Prop} {E : Prop}
    (hg : o.guard = none) (b : Builtin) (F : Array TypeId → TypeId → Array Value → Sem Value) (hb : ∀ ts t cs vs, builtin b ts t cs vs = (do pure (.value (← F ts t vs)))) (args : Array Operand) (ts : Array TypeId)
    (hop : o.op = Op.call { callee := Callee.builtin b, args := args, argTypes := ts })
    (vs : Array Value) (hv : args.map a.eval = vs) {v' : Value} {w' : World} (hr : (F ts o.type vs).run P w = .ok v' w') (hK : K (a.put o.dst v') w') :
    if Region.wanted o (yielded ops a.tmps) = true then Oper.wp P o a w K Q else E := by
  have hw : Region.wanted o (yielded ops a.tmps) = true := by simp [Region.wanted, hg]
  rw [if_pos hw]
  unfold Oper.wp execOp
  simp only [hop, resolve, invoke, hb, Sem.run_bind, Sem.run_pure, Result.andThen_ok, hv, hr]
  exact hK
end
section
variable {w w' : World} {e : TypeId} {size n : Nat} {v : Value} {xs : List Value}
/-- The block of such a row, opened. -/
theorem Vec.opened {g cap : Nat} (h : Vec w e size (.slice (some ⟨g, 0, none⟩) n cap) n xs) :
    ∃ cur : List Value, w.heap[g]? = some (.cells cur.toArray e (0, 0)) ∧ n ≤ cap ∧ cap ≤ maxLen ∧ cur.length = cap * size ∧ cur.take (n * size) = xs ∧ xs.length = n * size := by
  obtain ⟨h1, ⟨h', -⟩ | ⟨g', cap', cur, h', h0, hg, hn, hc, hz, ht⟩⟩ := h
  · cases h'
  · simp only [Value.slice.injEq, Option.some.injEq, Addr.mk.injEq, and_true, true_and] at h'
    obtain ⟨rfl, rfl⟩ := h'
    exact ⟨cur.toList, by simpa using hg, hn, hc, by simpa using hz, ht, h1⟩
theorem Vec.built {g cap : Nat} (cur : List Value) (hg : w.heap[g]? = some (.cells cur.toArray e (0, 0))) (hn : n ≤ cap) (hc : cap ≤ maxLen) (hz : cur.length = cap * size) (ht : cur.take (n * size) = xs) :
    Vec w e size (.slice (some ⟨g, 0, none⟩) n cap) n xs :=
  ⟨by
    have := Nat.mul_le_mul_right size hn
    rw [← ht, List.length_take]; omega, Or.inr ⟨g, cap, cur.toArray, rfl, Nat.zero_le _, hg, hn, hc, by simpa using hz, by simpa using ht⟩⟩
end
/-- Some are put in their midst. -/
theorem lay_in (cur xs ys : List Value) (a s N : Nat) (hx : cur.take N = xs) (hl : xs.length = N) (ha : a ≤ N) (hs : ys.length = s) (hf : N + s ≤ cur.length) :
    (lay (lay cur (a + s) (xs.drop a)) a ys).take (N + s) = xs.take a ++ ys ++ xs.drop a := by
  have hd : (xs.drop a).length = N - a := by rw [List.length_drop, hl]
  have e1 : (lay cur (a + s) (xs.drop a)).take a = xs.take a := by
    unfold lay
    rw [List.append_assoc, List.take_append_of_le_length (by rw [List.length_take]; omega), List.take_take, Nat.min_eq_left (by omega), ← hx, List.take_take, Nat.min_eq_left ha]
  have e2 : (lay cur (a + s) (xs.drop a)).drop (a + s) = xs.drop a ++ cur.drop (a + s + (N - a)) := by
    unfold lay
    rw [List.append_assoc, List.drop_append_of_le_length (by rw [List.length_take]; omega), List.drop_eq_nil_of_le (by rw [List.length_take]; omega), List.nil_append, hd]
  have e3 : lay (lay cur (a + s) (xs.drop a)) a ys = xs.take a ++ ys ++ (xs.drop a ++ cur.drop (a + s + (N - a))) := by
    rw [lay, e1, hs, e2]
  rw [e3, ← List.append_assoc, List.take_append_of_le_length (by simp only [List.length_append, List.length_take, hd, hs, hl]; omega), List.take_of_length_le (by simp only [List.length_append, List.length_take, hd, hs, hl]; omega)]
theorem chg_setRow (w : World) (g : Nat) (cs : Array Value) : Chg (· = g) w (w.setRow g cs) :=
  ⟨rfl, rfl, rfl, by simp, fun k _ hk => setRow_other w g k _ (fun e => hk e)⟩
end Go.Proofs.Ythoaangmekkcmaa.Aid
end
