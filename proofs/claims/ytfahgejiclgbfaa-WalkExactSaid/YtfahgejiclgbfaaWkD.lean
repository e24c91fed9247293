/- Texts of ours, joined. -/
import Derived.Test.YtfahgejiclgbfaaWkB
import Derived.Test.YtfahgejiclgbfaaBkJ
import Derived.Test.YtfahgejiclgbfaaBkM

-- joined
section
namespace Go.Proofs.Ytfahgejiclgbfaa.Wk
open Go.ChangeShapes Go.WideShapes Go.ChangeAt Go.RowKit Go.PlainAid Aid Nt Nd Tr Bk
set_option linter.unusedVariables false
set_option linter.unusedSimpArgs false
set_option linter.unusedSectionVars false
/-- What Range gathers: the entries from low on, and the key of the first one above high. -/
def rstep (low high : By) (s : List Ent × ByteArray) (e : Ent) : (List Ent × ByteArray) × Bool :=
  if Nd.le e.key high then ((if lt e.key low then s.1 else s.1 ++ [e], s.2), true) else ((s.1, ofL e.key), false)
/-- What its function owns. -/
def aRan (g6 g7 g11 g12 : Nat) (low high : By) (s : List Ent × ByteArray) : Asn :=
  Asn.blk g7 9 #[.string (ofL high)] * (Asn.blk g6 9 #[.string (ofL low)] * (Asn.blk g12 9 #[.string s.2] *
    Asn.ex fun q : Option Addr × Nat => Asn.blk g11 27 #[.slice q.1 s.1.length q.2] * Asn.vec 44 3 (.slice q.1 s.1.length q.2) s.1.length (cells3 s.1)))
theorem exOpenL {w0 w : World} {O0 : Nat → Prop} {α : Type} {A : α → Asn} {B : Asn} (h : Own w0 O0 w (Asn.ex A * B)) : ∃ a, Own w0 O0 w (A a * B) := by
  obtain ⟨O, ⟨X, Y, ⟨a, hA⟩, hB, hd, hO⟩, hf⟩ := h.ex
  exact ⟨a, ⟨⟨O, ⟨X, Y, hA, hB, hd, hO⟩, hf⟩, h.chg⟩⟩
theorem exMkL {w0 w : World} {O0 : Nat → Prop} {α : Type} {A : α → Asn} {B : Asn} (a : α) (h : Own w0 O0 w (A a * B)) : Own w0 O0 w (Asn.ex A * B) := h.imp (Imp.l (fun _ _ h => ⟨a, h⟩))
theorem ran_mk {w0 w : World} {O0 : Nat → Prop} {g6 g7 g11 g12 : Nat} {low high : By} {l : List Ent} {en : ByteArray} {A : Option Addr} {c : Nat} {C : Asn}
    (h : Own w0 O0 w (Asn.blk g11 27 #[.slice A l.length c] * (Asn.vec 44 3 (.slice A l.length c) l.length (cells3 l) * (Asn.blk g7 9 #[.string (ofL high)] * (Asn.blk g6 9 #[.string (ofL low)] * (Asn.blk g12 9 #[.string en] * C)))))) :
    Own w0 O0 w (aRan g6 g7 g11 g12 low high (l, en) * C) := by
  unfold aRan
  have h1 := exMkL (A := fun q : Option Addr × Nat => Asn.blk g11 27 #[.slice q.1 l.length q.2] * Asn.vec 44 3 (.slice q.1 l.length q.2) l.length (cells3 l)) (A, c) (h.re (show _ = (Asn.blk g11 27 #[.slice A l.length c] * Asn.vec 44 3 (.slice A l.length c) l.length (cells3 l)) * (Asn.blk g7 9 #[.string (ofL high)] * (Asn.blk g6 9 #[.string (ofL low)] * (Asn.blk g12 9 #[.string en] * C))) by ac_rfl))
  exact h1.re (by ac_rfl)
theorem ran_open {w0 w : World} {O0 : Nat → Prop} {g6 g7 g11 g12 : Nat} {low high : By} {l : List Ent} {en : ByteArray} {C : Asn} (h : Own w0 O0 w (aRan g6 g7 g11 g12 low high (l, en) * C)) :
    ∃ A c, Own w0 O0 w (Asn.blk g11 27 #[.slice A l.length c] * (Asn.vec 44 3 (.slice A l.length c) l.length (cells3 l) * (Asn.blk g7 9 #[.string (ofL high)] * (Asn.blk g6 9 #[.string (ofL low)] * (Asn.blk g12 9 #[.string en] * C))))) := by
  unfold aRan at h
  obtain ⟨⟨A, c⟩, h⟩ := exOpenL (h.re (show _ = (Asn.ex fun q : Option Addr × Nat => Asn.blk g11 27 #[.slice q.1 l.length q.2] * Asn.vec 44 3 (.slice q.1 l.length q.2) l.length (cells3 l)) * (Asn.blk g7 9 #[.string (ofL high)] * (Asn.blk g6 9 #[.string (ofL low)] * (Asn.blk g12 9 #[.string en] * C))) by ac_rfl))
  exact ⟨A, c, h.re (by ac_rfl)⟩
theorem rstep_len (low high : By) (s : List Ent × ByteArray) (e : Ent) : (rstep low high s e).1.1.length ≤ s.1.length + 1 := by
  unfold rstep
  split
  · dsimp only
    split
    · omega
    · rw [List.length_append]; exact Nat.le_refl _
  · dsimp only; omega
set_option maxRecDepth 100000 in
set_option maxHeartbeats 8000000 in
theorem range1_any (g6 g7 g11 g12 : Nat) (low high : By) (w0 : World) (l : List Ent) (en : ByteArray) (e : Ent) (W : World) (C : Asn) (hl : l.length ≤ 26000000) (hS : Own w0 No W (aRan g6 g7 g11 g12 low high (l, en) * C)) :
    Calls Try.prog 67 (#[.agg (entCells e)] ++ #[.pointer (some ⟨g7, 0, none⟩), .pointer (some ⟨g12, 0, none⟩), .pointer (some ⟨g6, 0, none⟩), .pointer (some ⟨g11, 0, none⟩)]) W fun r W' => r = .returned (.bool (rstep low high (l, en) e).2) ∧ Own w0 No W' (aRan g6 g7 g11 g12 low high (rstep low high (l, en) e).1 * C) := by
  obtain ⟨A, c, hS⟩ := ran_open hS
  have S := Lib.hid (hS.alloc (entCells e) 44)
  have HL1 : Hid (Go.Op.bytesLess (ofL e.key).toList (ofL high).toList = lt e.key high) := Lib.hid (less e.key high)
  have HL2 : Hid (((ofL e.key).toList == (ofL high).toList) = decide (e.key = high)) := Lib.hid ((str_eq _ _).trans (decide_eq_decide.2 ⟨Aid.ofL_inj, fun h => by rw [h]⟩))
  have HL3 : Hid (Go.Op.bytesLess (ofL e.key).toList (ofL low).toList = lt e.key low) := Lib.hid (less e.key low)
  clear hS
  unfold entCells at *
  obtain ⟨R, hR⟩ : ∃ R, R = rstep low high (l, en) e := ⟨_, rfl⟩
  rw [← hR]
  unfold rstep Nd.le at hR
  have HR := Lib.hid hR
  clear hR
  show Calls _ _ #[.agg #[.string (ofL e.key), .string (ofL e.val), .bool e.ghost], .pointer (some ⟨g7, 0, none⟩), .pointer (some ⟨g12, 0, none⟩), .pointer (some ⟨g6, 0, none⟩), .pointer (some ⟨g11, 0, none⟩)] _ _
  go_enter Try.func67, Try.ntmps67
  go_upto_region 1 with fail
  obtain ⟨g5, hgz⟩ : ∃ g, g = W.heap.size := ⟨_, rfl⟩
  rw [← hgz] at S ⊢
  clear hgz
  generalize World.alloc _ _ = w1 at *
  obtain ⟨⟨e0, e1, e2⟩, -⟩ := three_of (S.out.has (Has.l (has_blk g5 _ _)))
  have k7 := (S.out.has (Has.r (Has.r (Has.r (Has.l (has_blk g7 _ _)))))).cell 0
  have k6 := (S.out.has (Has.r (Has.r (Has.r (Has.r (Has.l (has_blk g6 _ _))))))).cell 0
  have hl1 := HL1.out
  have hl2 := HL2.out
  have hl3 := HL3.out
  generalize lt e.key high = b1 at *
  generalize decide (e.key = high) = b2 at *
  generalize lt e.key low = b3 at *
  cases hb : (b1 || b2) with
  | false =>
    have hr := HR.out
    rw [hb, if_neg (by decide)] at hr
    subst hr
    have hb1 : b1 = false := by cases b1 <;> simp_all
    have hb2 : b2 = false := by cases b2 <;> simp_all
    subst hb1 hb2
    have f12 := (S.out.has (Has.r (Has.r (Has.r (Has.r (Has.r (Has.l (has_blk g12 _ _)))))))).free 0
    have c12 := (S.out.has (Has.r (Has.r (Has.r (Has.r (Has.r (Has.l (has_blk g12 _ _)))))))).cell 0
    have S2 := Lib.hid (own_1 (S.out.re (show _ = Asn.blk g12 9 #[.string en] * (Asn.blk g5 44 #[.string (ofL e.key), .string (ofL e.val), .bool e.ghost] * (Asn.blk g11 27 #[.slice A l.length c] * (Asn.vec 44 3 (.slice A l.length c) l.length (cells3 l) * (Asn.blk g7 9 #[.string (ofL high)] * (Asn.blk g6 9 #[.string (ofL low)] * C))))) by ac_rfl)) (.string (ofL e.key)))
    go_wp2_with fail
    clear f12 c12 k7 k6 e0 e1 e2 S
    generalize World.setCell w1 _ _ = w2 at *
    go_returns
    exact ⟨rfl, ran_mk (S2.out.re (show _ = Asn.blk g5 44 #[.string (ofL e.key), .string (ofL e.val), .bool e.ghost] * (Asn.blk g11 27 #[.slice A l.length c] * (Asn.vec 44 3 (.slice A l.length c) l.length (cells3 l) * (Asn.blk g7 9 #[.string (ofL high)] * (Asn.blk g6 9 #[.string (ofL low)] * (Asn.blk g12 9 #[.string (ofL e.key)] * C))))) by ac_rfl)).right⟩
  | true =>
    have hr := HR.out
    rw [hb, if_pos rfl] at hr
    have HR2 := Lib.hid hr
    clear hr HR
    have hbn : (!b1 && !b2) = false := by cases b1 <;> cases b2 <;> simp_all
    have f11 := (S.out.has (Has.r (Has.l (has_blk g11 _ _)))).free 0
    have c11 := (S.out.has (Has.r (Has.l (has_blk g11 _ _)))).cell 0
    cases b3 with
    | true =>
      have hr := HR2.out
      rw [if_pos rfl] at hr
      subst hr
      cases b1 <;> cases b2 <;> first | (exact absurd hb (by decide)) | (go_wp2_with fail; go_returns; exact ⟨rfl, ran_mk S.out.right⟩)
    | false =>
      have hr := HR2.out
      rw [if_neg (by decide)] at hr
      subst hr
      have S2 := Lib.hid (S.out.alloc #[.string (ofL e.key), .string (ofL e.val), .bool e.ghost] 44)
      have CX : Hid (Src Try.prog 3 27 (.slice (some ⟨w1.heap.size, 0, none⟩) 1 1) 1 [.string (ofL e.key), .string (ofL e.val), .bool e.ghost] (w1.alloc (.cells #[.string (ofL e.key), .string (ofL e.val), .bool e.ghost] 44))) := Lib.hid (src_blk Try.underlying27 (S2.out.has (Has.l (has_blk _ _ _))) rfl (by intro u hu; simp at hu; rcases hu with rfl | rfl | rfl <;> rfl))
      have HV := Lib.hid (S2.out.re (show _ = Asn.vec 44 3 (.slice A l.length c) l.length (cells3 l) * (Asn.blk w1.heap.size 44 #[.string (ofL e.key), .string (ofL e.val), .bool e.ghost] * (Asn.blk g5 44 #[.string (ofL e.key), .string (ofL e.val), .bool e.ghost] * (Asn.blk g11 27 #[.slice A l.length c] * (Asn.blk g7 9 #[.string (ofL high)] * (Asn.blk g6 9 #[.string (ofL low)] * (Asn.blk g12 9 #[.string en] * C)))))) by ac_rfl))
      clear S S2
      cases b1 <;> cases b2 <;> first | (exact absurd hb (by decide)) | skip
      all_goals
        go_wp2_with (with_reducible refine wpList_append_vec rfl (.tmp 17) (.tmp 19) 27 27 rfl 44 _ 3 40 Try.underlying27 info_entry ?_ ?_ (.slice A l.length c) l.length (cells3 l) ?_ HV.out.vec (.slice (some ⟨w1.heap.size, 0, none⟩) 1 1) ?_ 1 _ CX.out ?_ ?_ ?_)
      all_goals first | rfl | decide | (unfold maxLen; omega) | omega | skip
      all_goals
        intro v' w3 hv hc hf
        have T := HV.out.app hv hc hf
        obtain ⟨A', c', rfl⟩ := hv.slice
        have T1 := Lib.hid (T.re (show _ = Asn.blk g11 27 #[.slice A l.length c] * (Asn.vec 44 3 (.slice A' (l.length + 1) c') (l.length + 1) (cells3 l ++ [.string (ofL e.key), .string (ofL e.val), .bool e.ghost]) * (Asn.blk w1.heap.size 44 #[.string (ofL e.key), .string (ofL e.val), .bool e.ghost] * (Asn.blk g5 44 #[.string (ofL e.key), .string (ofL e.val), .bool e.ghost] * (Asn.blk g7 9 #[.string (ofL high)] * (Asn.blk g6 9 #[.string (ofL low)] * (Asn.blk g12 9 #[.string en] * C)))))) by ac_rfl))
        clear T hv hc hf HV CX f11 c11 k6 k7 e0 e1 e2
        have f11 := (T1.out.has (Has.l (has_blk g11 _ _))).free 0
        have c11 := (T1.out.has (Has.l (has_blk g11 _ _))).cell 0
        have T2 := Lib.hid (own_1 T1.out (.slice A' (l.length + 1) c'))
        clear T1
        go_wp2_with fail
        clear f11 c11
        generalize World.setCell w3 _ _ = w4 at *
        go_returns
        have q1 : (l ++ [e]).length = l.length + 1 := by simp
        have q2 : cells3 (l ++ [e]) = cells3 l ++ [.string (ofL e.key), .string (ofL e.val), .bool e.ghost] := cells3_app _ _
        refine ⟨rfl, ran_mk (A := A') (c := c') ?_⟩
        rw [q1, q2]
        exact (T2.out.re (show _ = (Asn.blk w1.heap.size 44 #[.string (ofL e.key), .string (ofL e.val), .bool e.ghost] * Asn.blk g5 44 #[.string (ofL e.key), .string (ofL e.val), .bool e.ghost]) * (Asn.blk g11 27 #[.slice A' (l.length + 1) c'] * (Asn.vec 44 3 (.slice A' (l.length + 1) c') (l.length + 1) (cells3 l ++ [.string (ofL e.key), .string (ofL e.val), .bool e.ghost]) * (Asn.blk g7 9 #[.string (ofL high)] * (Asn.blk g6 9 #[.string (ofL low)] * (Asn.blk g12 9 #[.string en] * C))))) by ac_rfl)).right
/-- What Range comes to. -/
def minK (low high : By) : By := if Nd.le low high then low else high
theorem min_run (low high : By) (a : Array TypeId) (b : TypeId) (W : World) : (Builtin.min_ a b #[.string (ofL low), .string (ofL high)]).run Try.prog W = .ok (.string (ofL (minK low high))) W := by
  have h1 : Go.Op.bytesLess (ofL low).toList (ofL high).toList = lt low high := less low high
  have h2 : ((ofL low).toList = (ofL high).toList) ↔ low = high := ⟨fun h => Aid.ofL_inj (by rw [ByteArray.toList_eq, ByteArray.toList_eq] at h; exact list_inj h), fun h => by rw [h]⟩
  have e : ofL (minK low high) = if (lt low high || decide (low = high)) = true then ofL low else ofL high := by unfold minK Nd.le; split <;> rfl
  rw [e, ← h1]
  have h3 : decide (low = high) = decide ((ofL low).toList = (ofL high).toList) := decide_eq_decide.2 h2.symm
  rw [h3]
  generalize ofL low = x
  generalize ofL high = y
  simp [Builtin.min_, Builtin.min2, go_sem, Op.stringOp]
def ranR (S : Sf) (root : Int) (low high : By) : Nat × List Ent × ByteArray :=
  if (goR S (rstep low high) root (minK low high) ([], endB)).1 = 0 then (0, (goR S (rstep low high) root (minK low high) ([], endB)).2.1, (goR S (rstep low high) root (minK low high) ([], endB)).2.2) else ((goR S (rstep low high) root (minK low high) ([], endB)).1, [], ⟨#[]⟩)
section
variable (gs : Nat) (S : Sf) (V : Nat → Value)
set_option maxRecDepth 100000 in
set_option maxHeartbeats 16000000 in
theorem Range_any (hs : Sm S) (hv : LvOk S) (root : Int) (low high : By) (w0 w : World) (C : Asn) (hS : Own w0 No w (aSf gs S V * C)) :
    Calls Try.prog 38 #[pgs gs, .int .i64 root, .string (ofL low), .string (ofL high)] w fun r w' => ∃ v, r = .returned (.tuple #[v, .string (ranR S root low high).2.2, .int .i64 (ranR S root low high).1]) ∧ Own w0 No w' (Asn.vec 44 3 v (ranR S root low high).2.1.length (cells3 (ranR S root low high).2.1) * (aSf gs S V * C)) := by
  have S0 := Lib.hid (((((hS.nilVec 44 3).alloc #[.string (ofL low)] 9).alloc #[.string (ofL high)] 9).alloc #[.slice none 0 0] 27).alloc #[.string endB] 9)
  have HGo := Lib.hid (fun g6 g7 g11 g12 W D (h : Own w0 No W (aRan g6 g7 g11 g12 low high ([], endB) * (aSf gs S V * D))) => goOn_any gs S V hs hv (rstep low high) (aRan g6 g7 g11 g12 low high) 67 #[.pointer (some ⟨g7, 0, none⟩), .pointer (some ⟨g12, 0, none⟩), .pointer (some ⟨g6, 0, none⟩), .pointer (some ⟨g11, 0, none⟩)] root (minK low high) w0 (fun s => s.1.length) (rstep_len low high) (fun _ _ => by kernel_rfl) (fun s e W C hl h => range1_any g6 g7 g11 g12 low high w0 s.1 s.2 e W C hl h) ([], endB) rfl W D h)
  have hmf : ∀ (fn : Fn) (first cap : Array Value) (w : World), (Instr.makeFunc fn first cap).run Try.prog w = .ok (.func fn first cap) w := fun _ _ _ _ => rfl
  have hmin := fun (a : Array TypeId) (b : TypeId) (W : World) => min_run low high a b W
  obtain ⟨r, hr⟩ : ∃ r, r = ranR S root low high := ⟨_, rfl⟩
  rw [← hr]
  unfold ranR at hr
  generalize goR S (rstep low high) root (minK low high) ([], endB) = rr at *
  have HR := Lib.hid hr
  clear hr hS
  unfold pgs at *
  unfold endB at S0
  go_enter Try.func38, Try.ntmps38
  simp only [World.size_alloc] at S0
  go_upto_region 3 with fail
  obtain ⟨g6, hgz⟩ : ∃ g, g = w.heap.size := ⟨_, rfl⟩
  rw [← hgz] at S0 ⊢
  clear hgz
  generalize World.alloc (World.alloc (World.alloc (World.alloc w _) _) _) _ = w1 at *
  generalize g6 + 1 = g7 at *
  generalize g7 + 1 = g11 at *
  generalize g11 + 1 = g12 at *
  have k6 := (S0.out.has (Has.r (Has.r (Has.r (Has.l (has_blk g6 _ _)))))).cell 0
  have k7 := (S0.out.has (Has.r (Has.r (Has.l (has_blk g7 _ _))))).cell 0
  have S1 := Lib.hid (show Own w0 No w1 (aRan g6 g7 g11 g12 low high ([], endB) * (aSf gs S V * C)) from ran_mk (A := none) (c := 0) (S0.out.re (by unfold endB; rw [show cells3 ([] : List Ent) = [] from rfl, show ([] : List Ent).length = 0 from rfl]; ac_rfl)))
  clear S0
  go_wp2_with fail
  refine (HGo.out g6 g7 g11 g12 _ _ S1.out).mono ?_
  rintro e w2 ⟨rfl, hX⟩
  obtain ⟨er, l, en⟩ := rr
  dsimp only at hX HR
  obtain ⟨A, c, hX⟩ := ran_open hX
  have S2 := Lib.hid hX
  clear hX S1 HGo k6 k7
  by_cases he : er = 0
  · subst he
    have hr := HR.out
    rw [if_pos rfl] at hr
    subst hr
    have k11 := (S2.out.has (Has.l (has_blk g11 _ _))).cell 0
    have k12 := (S2.out.has (Has.r (Has.r (Has.r (Has.r (Has.l (has_blk g12 _ _))))))).cell 0
    go_upto_region 6 with fail
    go_region
    go_wp2_with fail
    have S3 := Lib.hid S2.out.drew
    clear S2 k11 k12
    generalize World.drew w2 = w3 at *
    go_returns
    exact ⟨_, rfl, (S3.out.re (show _ = (Asn.blk g11 27 #[.slice A l.length c] * (Asn.blk g7 9 #[.string (ofL high)] * (Asn.blk g6 9 #[.string (ofL low)] * Asn.blk g12 9 #[.string en]))) * (Asn.vec 44 3 (.slice A l.length c) l.length (cells3 l) * (aSf gs S V * C)) by ac_rfl)).right⟩
  · have hr := HR.out
    rw [if_neg he] at hr
    subst hr
    have he2 : ((er : Nat) : Int) ≠ 0 := by simpa using he
    go_wp2_with fail
    go_returns
    exact ⟨_, rfl, ((S2.out.re (show _ = (Asn.blk g11 27 #[.slice A l.length c] * (Asn.vec 44 3 (.slice A l.length c) l.length (cells3 l) * (Asn.blk g7 9 #[.string (ofL high)] * (Asn.blk g6 9 #[.string (ofL low)] * Asn.blk g12 9 #[.string en])))) * (aSf gs S V * C) by ac_rfl)).right).nilVec 44 3⟩
end
end Go.Proofs.Ytfahgejiclgbfaa.Wk
end

-- joined
section
namespace Go.Proofs.Ytfahgejiclgbfaa.Wk
open Go.ChangeShapes Go.WideShapes Go.ChangeAt Go.RowKit Go.PlainAid Aid Nt Nd Tr Bk
set_option linter.unusedVariables false
set_option linter.unusedSimpArgs false
/-- The error alone: q says at which entry one stops. -/
def gonE (S : Sf) (q : Ent → Bool) : Nat → Int → Nat
  | 0, _ => 3
  | l + 1, p => match Bk.at_ S p with
    | none => 1
    | some n => if n.level ≠ 0 then 3 else if n.list.any q then 0 else if n.right = 0 then 0 else gonE S q l n.right
section
variable {σ : Type} (step : σ → Ent → σ × Bool) (q : Ent → Bool) (live : σ → Prop)
theorem scan_live (h : ∀ s e, live s → (step s e).2 = !q e ∧ (q e = false → live (step s e).1)) (l : List Ent) : ∀ s, live s → (scan step s l).2 = !l.any q ∧ (l.any q = false → live (scan step s l).1) := by
  induction l with
  | nil => intro s hs; exact ⟨rfl, fun _ => hs⟩
  | cons e l ih =>
    intro s hs
    obtain ⟨h1, h2⟩ := h s e hs
    rw [scan, List.any_cons]
    cases hq : q e with
    | true =>
      rw [hq] at h1
      rw [h1]
      simp
    | false =>
      rw [hq] at h1
      rw [h1]
      simpa using ih _ (h2 hq)
theorem gon_err (h : ∀ s e, live s → (step s e).2 = !q e ∧ (q e = false → live (step s e).1)) (S : Sf) : ∀ (l : Nat) (p : Int) (s : σ), live s → (gon S step l p s).1 = gonE S q l p
  | 0, p, s, hs => rfl
  | l + 1, p, s, hs => by
    rw [gon, gonE]
    cases hat : Bk.at_ S p with
    | none => rfl
    | some n =>
      dsimp only
      split
      · rfl
      · obtain ⟨h1, h2⟩ := scan_live step q live h n.list s hs
        rw [h1]
        cases ha : n.list.any q with
        | true => simp
        | false =>
          simp only [Bool.not_false, if_true, Bool.false_eq_true, if_false]
          split
          · rfl
          · exact gon_err h S l n.right _ (h2 ha)
end
theorem gonE_mono (S : Sf) {q1 q2 : Ent → Bool} (h : ∀ e, q1 e = true → q2 e = true) : ∀ (l : Nat) (p : Int), gonE S q1 l p = 0 → gonE S q2 l p = 0
  | 0, p, hz => hz
  | l + 1, p, hz => by
    rw [gonE] at hz ⊢
    cases hat : Bk.at_ S p with
    | none => rw [hat] at hz; exact hz
    | some n =>
      rw [hat] at hz
      dsimp only at hz ⊢
      by_cases hl : n.level ≠ 0
      · rw [if_pos hl] at hz; exact absurd hz (by decide)
      · rw [if_neg hl] at hz ⊢
        cases h2 : n.list.any q2 with
        | true => rw [if_pos rfl]
        | false =>
          have h1 : n.list.any q1 = false := by
            rw [List.any_eq_false] at h2 ⊢
            intro x hx hc
            exact h2 x hx (h x hc)
          rw [h1, if_neg (by decide)] at hz
          rw [if_neg (by decide)]
          split
          · rfl
          · rename_i hr
            rw [if_neg hr] at hz
            exact gonE_mono S h l n.right hz
theorem fir_live (q : Ent → Bool) (s : Option Ent) (e : Ent) (hs : s = none) : (fstep q s e).2 = !q e ∧ (q e = false → (fstep q s e).1 = none) := by
  subst hs
  unfold fstep
  cases q e <;> simp
theorem ran_live (low high : By) (s : List Ent × ByteArray) (e : Ent) (hs : True) : (rstep low high s e).2 = !aftQ high e ∧ (aftQ high e = false → True) := by
  unfold rstep aftQ
  refine ⟨?_, fun _ => trivial⟩
  cases Nd.le e.key high <;> rfl
theorem aft_nxt (key : By) (e : Ent) (h : aftQ key e = true) : nxtQ key e = true := by
  unfold aftQ Nd.le at h
  unfold nxtQ
  cases hl : lt e.key key
  · rfl
  · rw [hl] at h; simp at h
section
variable (S : Sf) (root : Int) (key : By)
theorem goR_err {σ : Type} (step : σ → Ent → σ × Bool) (q : Ent → Bool) (live : σ → Prop) (h : ∀ s e, live s → (step s e).2 = !q e ∧ (q e = false → live (step s e).1)) (s : σ) (hs : live s) :
    (goR S step root key s).1 = if (seek S 256 root 0 key).2.1 = 0 then gonE S q (257 - (pagesR S root 0 key).length) ((pagesR S root 0 key).getLastD 0) else (seek S 256 root 0 key).2.1 := by
  unfold goR
  split
  · exact gon_err step q live h S _ _ s hs
  · rfl
theorem firR_err (q : Ent → Bool) : (firR S root key q).1 = (goR S (fstep q) root key none).1 := by
  unfold firR
  split
  · rename_i h; exact h.symm
  · rfl
theorem minK_self : minK key key = key := by
  unfold minK
  split <;> rfl
theorem ranR_err : (ranR S root key key).1 = (goR S (rstep key key) root key ([], endB)).1 := by
  unfold ranR
  rw [minK_self]
  split
  · rename_i h; exact h.symm
  · rfl
theorem ends_bad (h : (seek S 256 root 0 key).2.1 ≠ 0) : (firR S root key (nxtQ key)).1 = (seek S 256 root 0 key).2.1 ∧ (firR S root key (nxtQ key)).2 = none ∧ (firR S root key (aftQ key)).1 = (seek S 256 root 0 key).2.1 ∧ (firR S root key (aftQ key)).2 = none ∧
    (gapR S root key).1 = (seek S 256 root 0 key).2.1 ∧ (ranR S root key key).1 = (seek S 256 root 0 key).2.1 ∧ (ranR S root key key).2.1 = [] ∧ (ranR S root key key).2.2 = ⟨#[]⟩ := by
  have hg : ∀ {σ : Type} (step : σ → Ent → σ × Bool) (k : By) (s : σ), k = key → goR S step root k s = ((seek S 256 root 0 key).2.1, s) := by
    intro σ step k s hk
    subst hk
    unfold goR
    rw [if_neg h]
  have hf : ∀ q, firR S root key q = ((seek S 256 root 0 key).2.1, none) := by
    intro q
    unfold firR
    rw [hg _ _ _ rfl]
    exact if_neg h
  have hr : ranR S root key key = ((seek S 256 root 0 key).2.1, [], ⟨#[]⟩) := by
    unfold ranR
    rw [hg _ _ _ (minK_self key)]
    exact if_neg h
  have hga : gapR S root key = ((seek S 256 root 0 key).2.1, ⟨#[]⟩) := by
    unfold gapR
    rw [hf]
    exact if_neg h
  rw [hf, hf, hr, hga]
  exact ⟨rfl, rfl, rfl, rfl, rfl, rfl, rfl, rfl⟩
theorem gap_err : (gapR S root key).1 = (firR S root key (aftQ key)).1 := by
  unfold gapR
  split
  · rename_i h
    rw [h]
    cases (firR S root key (aftQ key)).2 <;> rfl
  · rfl
theorem ends_ok (h : (seek S 256 root 0 key).2.1 = 0) (ha : (firR S root key (aftQ key)).1 = 0) : (firR S root key (nxtQ key)).1 = 0 ∧ (ranR S root key key).1 = 0 := by
  rw [firR_err, goR_err S root key (fstep (aftQ key)) (aftQ key) (· = none) (fun s e hs => fir_live _ s e hs) none rfl, if_pos h] at ha
  rw [firR_err, goR_err S root key (fstep (nxtQ key)) (nxtQ key) (· = none) (fun s e hs => fir_live _ s e hs) none rfl, if_pos h, ranR_err, goR_err S root key (rstep key key) (aftQ key) (fun _ => True) (fun s e hs => ran_live key key s e hs) _ trivial, if_pos h]
  exact ⟨gonE_mono S (aft_nxt key) _ _ ha, ha⟩
end
end Go.Proofs.Ytfahgejiclgbfaa.Wk
end

-- joined
section
namespace Go.Proofs.Ytfahgejiclgbfaa.Bk
open Go.ChangeShapes Go.WideShapes Go.ChangeAt Go.RowKit Go.PlainAid Aid Nt Nd Tr
set_option linter.unusedVariables false
set_option linter.unusedSimpArgs false
set_option linter.unusedSectionVars false
theorem nws_get (S : Sf) (V : Nat → Value) (k : Nat) (hk : k < 256 * 7) : (nws 256 S V)[k]? = (nodCells (S (k / 7)) (V (k / 7)))[k % 7]? := by
  have := nws_at 256 S V (k / 7) (k % 7) (by omega) (by omega)
  rw [show k / 7 * 7 + k % 7 = k by omega] at this
  exact this
theorem nws_up (S : Sf) (V : Nat → Value) (p : Nat) (hp : p < 256) (n : Nod) (v : Value) : nws 256 (up S p n) (up V p v) = (nws 256 S V).take (p * 7) ++ (nodCells n v).toList ++ (nws 256 S V).drop (p * 7 + 7) := by
  have hl := nws_len 256 S V
  have hl2 := nws_len 256 (up S p n) (up V p v)
  have h7 : (nodCells n v).toList.length = 7 := rfl
  apply List.ext_getElem?
  intro k
  by_cases hk : k < 256 * 7
  · rw [nws_get _ _ k hk]
    by_cases h1 : k < p * 7
    · rw [List.append_assoc, List.getElem?_append_left (by rw [List.length_take]; omega), List.getElem?_take, if_pos h1, nws_get _ _ k hk, up_other _ _ _ _ (by omega), up_other _ _ _ _ (by omega)]
    · by_cases h2 : k < p * 7 + 7
      · rw [List.append_assoc, List.getElem?_append_right (by rw [List.length_take]; omega), List.length_take, Nat.min_eq_left (by omega), List.getElem?_append_left (by rw [h7]; omega), show k / 7 = p by omega, up_same, up_same, show k % 7 = k - p * 7 by omega, Array.getElem?_toList]
      · rw [List.getElem?_append_right (by rw [List.length_append, List.length_take, h7]; omega), List.length_append, List.length_take, h7, Nat.min_eq_left (by omega), List.getElem?_drop, show p * 7 + 7 + (k - (p * 7 + 7)) = k by omega, nws_get _ _ k hk, up_other _ _ _ _ (by omega), up_other _ _ _ _ (by omega)]
  · rw [List.getElem?_eq_none (by omega), List.getElem?_eq_none (by rw [List.length_append, List.length_append, List.length_take, List.length_drop, h7]; omega)]
theorem rows_up (S : Sf) (V : Nat → Value) (p : Nat) (n : Nod) (v : Value) : Imp (aRows S V * aEnts n v) (aRows (up S p n) (up V p v)) := fun w O ⟨X, Y, h1, h2, hd, hO⟩ => by
  refine ⟨fun q hq => ?_, fun k hk => ?_⟩
  · by_cases e : q = p
    · subst e
      rw [up_same, up_same]
      exact ⟨h2.1, fun k hk => (hO k).2 (Or.inr ((h2.2 k).2 hk))⟩
    · rw [up_other _ _ _ _ e, up_other _ _ _ _ e]
      exact ⟨(h1.1 q hq).1, fun k hk => (hO k).2 (Or.inl ((h1.1 q hq).2 k hk))⟩
  · rcases (hO k).1 hk with h | h
    · exact h1.2 k h
    · exact h2.1.lt ((h2.2 k).1 h)
/-- A page has another node. -/
theorem sf_up {w0 w : World} {O0 : Nat → Prop} {gs : Nat} {S : Sf} {V : Nat → Value} {C : Asn} (p : Nat) (hp : p < 256) (n : Nod) (v : Value) (h : Own w0 O0 w (aEnts n v * (aSf gs S V * C))) :
    Own w0 O0 (w.setCells gs (p * 7) (nodCells n v).toList) (aSf gs (up S p n) (up V p v) * C) := by
  have h1 := h.re (show _ = Asn.vec 131 7 (.slice (some ⟨gs, 0, none⟩) 256 256) 256 (nws 256 S V) * ((aRows S V * aEnts n v) * C) by unfold aSf; ac_rfl)
  have h2 := own_setCells 131 7 gs 256 256 (nodCells n v).toList (p * 7) (nws 256 S V) w h1 (by show p * 7 + 7 ≤ _; omega)
  have h3 := h2.imp (Imp.r (Imp.l (rows_up S V p n v)))
  rw [show p * 7 + (nodCells n v).toList.length = p * 7 + 7 from rfl, ← nws_up S V p hp n v] at h3
  exact h3.re (by unfold aSf; ac_rfl)
end Go.Proofs.Ytfahgejiclgbfaa.Bk
end
