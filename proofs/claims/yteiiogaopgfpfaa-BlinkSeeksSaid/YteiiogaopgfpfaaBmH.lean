/- Texts of ours, joined. -/
import Derived.Test.YteiiogaopgfpfaaBkAw
import Derived.Test.YteiiogaopgfpfaaBmE
import Derived.Test.YteiiogaopgfpfaaBkR
import Derived.Test.YteiiogaopgfpfaaBkAc
import Derived.Test.YteiiogaopgfpfaaDyB
import Derived.Test.YteiiogaopgfpfaaBkJ

-- joined
section
namespace Go.Proofs.Yteiiogaopgfpfaa.Bk
open Go.ChangeShapes Go.WideShapes Go.ChangeAt Go.RowKit Go.PlainAid Aid Nt Nd Tr
set_option linter.unusedVariables false
set_option linter.unusedSimpArgs false
set_option linter.unusedSectionVars false
def poL (ps : List Po) : List Value := ps.flatMap fun x => (poC x).toList
/-- The law's world. -/
def aWd (g gs : Nat) (S : Sf) (V : Nat → Value) (vl : Value) (l : List Ent) (vp : Value) (ps : List Po) (next : Int) : Asn :=
  Asn.blk g 30 #[sPtr gs, vl, vp, .int .i64 next] * (Asn.vec 44 3 vl l.length (cells3 l) * (Asn.vec 79 4 vp ps.length (poL ps) * aSf gs S V))
def S3 : Sf := puts T0 [(3, { Nod.none with tree := 2 })]
set_option maxRecDepth 100000 in
set_option maxHeartbeats 8000000 in
theorem start_any (w : World) :
    Calls Try.prog 8 #[] w fun e w' => ∃ g gs V, e = .returned (.pointer (some ⟨g, 0, none⟩)) ∧ Own w No w' (aWd g gs S3 V (.slice none 0 0) [] (.slice none 0 0) [] 4 * Asn.emp) := by
  go_enter Try.func8, Try.ntmps8
  go_wp2_with fail
  refine (New_any w).mono ?_
  rintro e w1 ⟨gs, V0, rfl, hX⟩
  have S1 := Lib.hid ((show Own w No w1 (aSf gs T0 V0 * Asn.emp) from hX.addEmp).alloc #[sPtr gs, .slice none 0 0, .slice none 0 0, .int .i64 4] 30)
  clear hX
  unfold sPtr at *
  go_wp2_with fail
  obtain ⟨g, hgz⟩ : ∃ g, g = w1.heap.size := ⟨_, rfl⟩
  rw [← hgz] at S1 ⊢
  have hsz : (w1.alloc (.cells #[.pointer (some ⟨gs, 0, none⟩), .slice none 0 0, .slice none 0 0, .int .i64 4] 30)).heap.size = g + 1 := by rw [World.size_alloc, hgz]
  clear hgz
  generalize World.alloc w1 _ = w2 at *
  have S2 := Lib.hid ((S1.out.nilVec 44 3).alloc #[.int .i64 3, .int .i64 2, .int .i64 0, .int .i64 0, .bool false, .string ⟨#[]⟩, .int .i64 0, .slice none 0 0] 73)
  rw [hsz] at S2
  clear hsz S1
  generalize World.alloc w2 _ = w3 at *
  have S3 := Lib.hid (S2.out.imp (Imp.l (blk_vec (cs := [.int .i64 3, .int .i64 2, .int .i64 0, .int .i64 0, .bool false, .string ⟨#[]⟩, .int .i64 0, .slice none 0 0]) 1 8 rfl (by decide))))
  clear S2
  have HPu := Lib.hid (ShPut_own gs T0 V0 [⟨3, { Nod.none with tree := 2 }, .slice none 0 0⟩] 1 rfl (.slice (some ⟨g + 1, 0, none⟩) 1 1) w w3 (Asn.blk g 30 #[.pointer (some ⟨gs, 0, none⟩), .slice none 0 0, .slice none 0 0, .int .i64 4] * Asn.emp) (by decide) (fun x hx => by obtain rfl := List.mem_singleton.1 hx; exact Nat.zero_le _)
    (S3.out.addEmp.re (show _ = Asn.vec 73 8 (.slice (some ⟨g + 1, 0, none⟩) 1 1) 1 [.int .i64 3, .int .i64 2, .int .i64 0, .int .i64 0, .bool false, .string ⟨#[]⟩, .int .i64 0, .slice none 0 0] * ((Asn.vec 44 3 (.slice none 0 0) 0 [] * Asn.emp) * (aSf gs T0 V0 * (Asn.blk g 30 #[.pointer (some ⟨gs, 0, none⟩), .slice none 0 0, .slice none 0 0, .int .i64 4] * Asn.emp))) by ac_rfl)))
  unfold sPtr at HPu
  clear S3
  go_wp2_with fail
  refine HPu.out.mono ?_
  rintro e w4 ⟨rfl, V1, hX⟩
  have S4 := Lib.hid ((hX.nilVec 44 3).nilVec 79 4)
  clear hX HPu
  go_wp2_with fail
  go_returns
  exact ⟨g, gs, V1, rfl, S4.out.re (show _ = (Asn.blk g 30 #[.pointer (some ⟨gs, 0, none⟩), .slice none 0 0, .slice none 0 0, .int .i64 4] * (Asn.vec 44 3 (.slice none 0 0) 0 [] * (Asn.vec 79 4 (.slice none 0 0) 0 [] * aSf gs S3 V1))) * Asn.emp by unfold S3; ac_rfl)⟩
end Go.Proofs.Yteiiogaopgfpfaa.Bk
end

-- joined
section
namespace Go.Proofs.Yteiiogaopgfpfaa.Bk
open Nt Nd
set_option linter.unusedVariables false
set_option linter.unusedSimpArgs false
set_option linter.unusedSectionVars false
section
variable {S : Sf} {l : List Ent} {ps : List Du} {next top L : Nat} {ch : Nat → List Nat}
/-- The start. -/
theorem wg_start : Wg (puts (fun _ => Nod.none) [(3, { Nod.none with tree := 2 })]) [] [] 4 0 (fun _ => [3]) := by
  have e : puts (fun _ => Nod.none) [(3, { Nod.none with tree := 2 })] = up (fun _ => Nod.none) 3 { Nod.none with tree := 2 } := puts_one _ 3 _ (by omega)
  rw [e]
  have e3 : up (fun _ => Nod.none) 3 { Nod.none with tree := 2 } 3 = { Nod.none with tree := 2 } := up_same ..
  refine ⟨⟨fun L hL => ?_, rfl, fun L hL => by omega, fun L hL => by simp, fun L K p h1 h2 _ _ => by omega, fun L p _ hp => ?_⟩, ?_, (fun e he => by cases he), fun K p _ hp => Or.inl (List.mem_singleton.1 hp), by omega, fun p hp => ?_, (fun x hx => by cases hx), fun L hL => by omega, fun L _ hL => by omega, fun h => by omega⟩
  · obtain rfl : L = 0 := by omega
    refine ⟨3, rfl, ⟨low, rfl, ?_⟩, ?_⟩
    · rw [e3]
      exact ⟨rfl, rfl, by decide, (fun e he => by cases he), (fun h => by cases h), (fun h => by cases h), fun _ => rfl, fun h => by omega⟩
    · rw [e3]
      exact ⟨rfl, rfl⟩
  · have := List.mem_singleton.1 hp
    omega
  · rw [lists_cons, e3]
    rfl
  · exact up_other _ _ _ _ fun g => hp 0 (Nat.zero_le _) (by rw [g]; simp)
/-- One who doesn't cover a key: on to the right. -/
theorem step_right {ps A B : List Nat} {l0 key : By} {c : Nat} (h : Pos S 2 L ps A l0 c B) (hc : cov (S c) key = false) :
    (S c).has = true ∧ le (S c).high key = true ∧ (S c).right ≠ 0 ∧ ∃ (b : Nat) (B' : List Nat), B = b :: B' ∧ (S c).right = b ∧ Pos S 2 L ps (A ++ [c]) (S c).high b B' := by
  unfold cov at hc
  have hh : (S c).has = true := by
    cases g : (S c).has with
    | true => rfl
    | false => rw [g] at hc; cases hc
  rw [hh, Bool.not_true, Bool.false_or] at hc
  have hr := right_ok h.ok
  have hpost := h.post
  rw [hiN_has hh] at hpost
  refine ⟨hh, not_lt.1 hc, h.ok.rt hh, ?_⟩
  cases B with
  | nil => cases hpost.1
  | cons b B' =>
    obtain ⟨g1, ⟨l2, g2, g3⟩, g4⟩ := hpost
    cases g2
    refine ⟨b, B', rfl, by omega, by rw [h.eq]; simp, ?_, g3, g4⟩
    obtain ⟨p0, g⟩ := h.pre
    refine ⟨p0, seg_app.2 ⟨_, _, g, rfl, ⟨l0, rfl, h.ok⟩, ?_⟩⟩
    rw [hiN_has hh]
    exact ⟨rfl, by omega⟩
/-- One who covers it is the one. -/
theorem step_here {A B : List Nat} {l0 key : By} {c : Nat} (hl : Lvl S 2 L (ch L)) (h : Pos S 2 L (ch L) A l0 c B) (hk : key.length = 9) (h0 : le l0 key = true) (hc : cov (S c) key = true) : fnd S key (ch L) = c := by
  obtain ⟨A', l', B', g1, g2, g3, g4⟩ := hl.find key (low_le _ hk)
  obtain ⟨M, e1, e2⟩ := pos_ahead h g1 h0 g4 g3 g2
  cases M with
  | nil => exact (List.cons.inj e2).1.symm
  | cons d M =>
    have := g4 d (by rw [e1]; simp)
    rw [← (List.cons.inj e2).1, hc] at this
    cases this
theorem way_pages (S : Sf) (ch : Nat → List Nat) (key : By) : ∀ n L, (way S ch key L n).map (fun x => x.1) = (List.range (n + 1)).map fun j => (fnd S key (ch (L - j)) : Int)
  | 0, L => rfl
  | n + 1, L => by
    show (fnd S key (ch L) : Int) :: (way S ch key (L - 1) n).map (fun x => x.1) = _
    rw [way_pages S ch key n (L - 1), List.range_succ_eq_map (n := n + 1), List.map_cons, List.map_map]
    refine congrArg _ (List.map_congr_left fun j _ => ?_)
    simp only [Function.comp]
    rw [show L - 1 - j = L - (j + 1) by omega]
theorem Wg.pages (h : Wg S l ps next top ch) (key : By) (hk : key.length = 9) (lv : Nat) (hlv : lv ≤ top) : (Bk.seek S 256 3 lv key).2.1 = 0 ∧ pagesR S 3 lv key = (List.range (top - lv + 1)).map fun j => (fnd S key (ch (top - j)) : Int) := by
  obtain ⟨left', -, hs⟩ := h.seek key (low_le _ hk) lv hlv
  unfold pagesR
  rw [hs]
  exact ⟨rfl, way_pages ..⟩
/-- A level above the root is none. -/
theorem Wg.none (h : Wg S l ps next top ch) (key : By) (hk : key.length = 9) (lv : Nat) (hlv : top < lv) : (Bk.seek S 256 3 lv key).2.1 = 3 ∧ pagesR S 3 lv key = [] := by
  have hp := h.tree.pos
  obtain ⟨r1, r2, r3⟩ := root_has h.tree
  have e : Bk.seek S 256 3 lv key = (255, 3, []) := by
    unfold Bk.seek
    rw [vis_succ, at_page _ (by omega) (by omega)]
    dsimp only
    show sk S lv key 300 ⟨255, 0, 3, S 3⟩ [] = _
    unfold sk
    have hon : onB key (S 3) = false := by
      unfold onB cov
      rw [r1]
      rfl
    have hr : rgt S key 255 3 (S 3) = ⟨255, 0, 3, S 3⟩ := by rw [rgt_succ, hon]; rfl
    have : (S 3).level = (top : Int) := hp.ok.lv
    rw [if_pos rfl]
    dsimp only
    rw [hr]
    dsimp only
    rw [if_pos rfl, if_neg (by omega), if_pos (by omega)]
  unfold pagesR
  rw [e]
  exact ⟨rfl, rfl⟩
theorem Wg.root3 (h : Wg S l ps next top ch) : (S 3).level = (top : Int) ∧ fnd S [] (ch top) = 3 := by
  refine ⟨h.tree.pos.ok.lv, ?_⟩
  obtain ⟨r1, r2, r3⟩ := root_has h.tree
  rw [h.tree.root]
  refine fnd_eq (A := []) (B := []) (by simp) ?_
  unfold cov
  rw [r1]
  rfl
end
end Go.Proofs.Yteiiogaopgfpfaa.Bk
end

-- joined
section
namespace Go.Proofs.Yteiiogaopgfpfaa.Wk
open Go.ChangeShapes Go.WideShapes Go.ChangeAt Go.RowKit Go.PlainAid Aid Nt Nd Tr Bk
set_option linter.unusedVariables false
set_option linter.unusedSimpArgs false
set_option linter.unusedSectionVars false
/-- The entries of a leaf, from a state on: the state behind them, and whether there is more to see. -/
def scan {σ : Type} (step : σ → Ent → σ × Bool) : σ → List Ent → σ × Bool
  | s, [] => (s, true)
  | s, e :: l => if (step s e).2 then scan step (step s e).1 l else ((step s e).1, false)
def gon (S : Sf) {σ : Type} (step : σ → Ent → σ × Bool) : Nat → Int → σ → Nat × σ
  | 0, _, s => (3, s)
  | l + 1, p, s => match at_ S p with
    | none => (1, s)
    | some n => if n.level ≠ 0 then (3, s) else
      if (scan step s n.list).2 then (if n.right = 0 then (0, (scan step s n.list).1) else gon S step l n.right (scan step s n.list).1) else (0, (scan step s n.list).1)
/-- What goOn comes to. -/
def goR (S : Sf) {σ : Type} (step : σ → Ent → σ × Bool) (root : Int) (key : By) (s : σ) : Nat × σ :=
  if (seek S 256 root 0 key).2.1 = 0 then gon S step (257 - (pagesR S root 0 key).length) ((pagesR S root 0 key).getLastD 0) s else ((seek S 256 root 0 key).2.1, s)
theorem scan_none {σ : Type} (step : σ → Ent → σ × Bool) (s : σ) (l : List Ent) (i : Nat) (h : l[i]? = none) : scan step s (l.drop i) = (s, true) := by
  rw [List.drop_eq_nil_of_le (by simpa using h)]; rfl
theorem scan_some {σ : Type} (step : σ → Ent → σ × Bool) (s : σ) (l : List Ent) (i : Nat) (e : Ent) (h : l[i]? = some e) : scan step s (l.drop i) = if (step s e).2 then scan step (step s e).1 (l.drop (i + 1)) else ((step s e).1, false) := by
  obtain ⟨hi, rfl⟩ := List.getElem?_eq_some_iff.1 h
  rw [List.drop_eq_getElem_cons hi]; rfl
/-- How many entries can have been seen, when so many leaves may still be. -/
def bz (l : Nat) : Nat := (256 - l) * 99999
theorem bz_le (l : Nat) : bz l ≤ 25599744 := by unfold bz; omega
theorem bz_step (l : Nat) (h : l + 1 ≤ 256) : bz (l + 1) + 99999 = bz l := by unfold bz; omega
theorem bz_all {z l j n : Nat} (h : z ≤ bz (l + 1) + j) (hj : j < n) (hn : n ≤ 99999) : z ≤ 26000000 := by have := bz_le (l + 1); omega
theorem bz_next {z l j n : Nat} (h : z ≤ bz (l + 1) + j) (hj : j ≤ n) (hn : n ≤ 99999) (hl : l + 1 ≤ 256) : z ≤ bz l := by have := bz_step l hl; omega
theorem bz_zero {z l : Nat} (h : z ≤ bz (l + 1)) : z ≤ bz (l + 1) + 0 := Nat.le_trans h (Nat.le_add_right _ _)
theorem bz_succ {z z2 l j : Nat} (h : z ≤ bz (l + 1) + j) (h2 : z2 ≤ z + 1) : z2 ≤ bz (l + 1) + (j + 1) := by omega
section
variable (gs : Nat) (S : Sf) (V : Nat → Value)
end
end Go.Proofs.Yteiiogaopgfpfaa.Wk
end

-- joined
section
namespace Go.Proofs.Yteiiogaopgfpfaa.Wk
open Go.ChangeShapes Go.WideShapes Go.ChangeAt Go.RowKit Go.PlainAid Aid Nt Nd Tr Bk
set_option linter.unusedVariables false
set_option linter.unusedSimpArgs false
set_option linter.unusedSectionVars false
theorem le_is (x y : By) : (!Go.Op.bytesLess (ofL x).toList (ofL y).toList && !(ofL x).toList == (ofL y).toList) = !Nd.le x y := by
  have h1 : Go.Op.bytesLess (ofL x).toList (ofL y).toList = lt x y := less x y
  have h2 : ((ofL x).toList == (ofL y).toList) = decide (x = y) := (str_eq _ _).trans (decide_eq_decide.2 ⟨Aid.ofL_inj, fun h => by rw [h]⟩)
  unfold Nd.le
  rw [h1, h2]
  cases lt x y <;> simp
theorem lt_is (x y : By) : (!Go.Op.bytesLess (ofL x).toList (ofL y).toList) = !lt x y := by
  rw [show Go.Op.bytesLess (ofL x).toList (ofL y).toList = lt x y from less x y]
/-- What first comes to. -/
def fstep (q : Ent → Bool) (s : Option Ent) (e : Ent) : Option Ent × Bool := if q e then (some e, false) else (s, !s.isSome)
def fE : Option Ent → Ent
  | some e => e
  | none => ⟨[], [], false⟩
def aKey (g : Nat) (key : By) : Asn := Asn.blk g 9 #[.string (ofL key)]
theorem own_3 {w0 w : World} {O0 : Nat → Prop} {A : Asn} {g : Nat} {T : TypeId} {a0 a1 a2 : Value} (h : Own w0 O0 w (Asn.blk g T #[a0, a1, a2] * A)) (b0 b1 b2 : Value) :
    Own w0 O0 (((w.setCell ⟨g, 0, none⟩ b0).setCell ⟨g, 1, none⟩ b1).setCell ⟨g, 2, none⟩ b2) (Asn.blk g T #[b0, b1, b2] * A) := by
  have := ((h.set (Sets.l (sets_blk g T _ 0 b0))).set (Sets.l (sets_blk g T _ 1 b1))).set (Sets.l (sets_blk g T _ 2 b2))
  simpa only [List.setIfInBounds_toArray, List.set_cons_zero, List.set_cons_succ] using this
theorem own_1 {w0 w : World} {O0 : Nat → Prop} {A : Asn} {g : Nat} {T : TypeId} {a0 : Value} (h : Own w0 O0 w (Asn.blk g T #[a0] * A)) (b0 : Value) : Own w0 O0 (w.setCell ⟨g, 0, none⟩ b0) (Asn.blk g T #[b0] * A) := by
  have := h.set (Sets.l (sets_blk g T _ 0 b0))
  simpa only [List.setIfInBounds_toArray, List.set_cons_zero, List.set_cons_succ] using this
theorem three_of {w : World} {g : Nat} {T : TypeId} {a0 a1 a2 : Value} (h : Blk w g T #[a0, a1, a2]) :
    (w.cell? ⟨g, 0, none⟩ = some a0 ∧ w.cell? ⟨g, 1, none⟩ = some a1 ∧ w.cell? ⟨g, 2, none⟩ = some a2) ∧ w.frozen? ⟨g, 0, none⟩ = false ∧ w.frozen? ⟨g, 1, none⟩ = false ∧ w.frozen? ⟨g, 2, none⟩ = false :=
  ⟨⟨h.cell 0, h.cell 1, h.cell 2⟩, h.free 0, h.free 1, h.free 2⟩
/-- What first writes: whether it was found, and what. -/
def aFirst (g7 g11 g12 : Nat) (kf : FuncId) (cap : Array Value) (A2 : Asn) (s : Option Ent) : Asn :=
  A2 * (Asn.blk g7 62 #[.func (.func kf) #[] cap] * (Asn.blk g11 44 (entCells (fE s)) * Asn.blk g12 4 #[.bool s.isSome]))
/-- What Next and After come to. -/
def firR (S : Sf) (root : Int) (key : By) (q : Ent → Bool) : Nat × Option Ent :=
  if (goR S (fstep q) root key none).1 = 0 then (0, (goR S (fstep q) root key none).2) else ((goR S (fstep q) root key none).1, none)
section
variable (gs : Nat) (S : Sf) (V : Nat → Value)
end
end Go.Proofs.Yteiiogaopgfpfaa.Wk
end

-- joined
section
namespace Go.Proofs.Yteiiogaopgfpfaa.Wk
open Go.ChangeShapes Go.WideShapes Go.ChangeAt Go.RowKit Go.PlainAid Aid Nt Nd Tr Bk
set_option linter.unusedVariables false
set_option linter.unusedSimpArgs false
set_option linter.unusedSectionVars false
def nxtQ (key : By) (e : Ent) : Bool := !lt e.key key
def aftQ (key : By) (e : Ent) : Bool := !Nd.le e.key key
section
variable (gs : Nat) (S : Sf) (V : Nat → Value)
/-- What Gap comes to. -/
def endB : ByteArray := ⟨#[255, 255, 255, 255, 255, 255, 255, 255, 255]⟩
def gapR (S : Sf) (root : Int) (key : By) : Nat × ByteArray :=
  if (firR S root key (aftQ key)).1 = 0 then (match (firR S root key (aftQ key)).2 with
    | some e => (0, ofL e.key)
    | none => (0, endB)) else ((firR S root key (aftQ key)).1, ⟨#[]⟩)
end
end Go.Proofs.Yteiiogaopgfpfaa.Wk
end

-- joined
section
namespace Go.Proofs.Yteiiogaopgfpfaa.Wk
open Go.ChangeShapes Go.WideShapes Go.ChangeAt Go.RowKit Go.PlainAid Aid Nt Nd Tr Bk
set_option linter.unusedVariables false
set_option linter.unusedSimpArgs false
set_option linter.unusedSectionVars false
/-- What Range gathers: the entries from low on, and the key of the first one above high. -/
def rstep (low high : By) (s : List Ent × ByteArray) (e : Ent) : (List Ent × ByteArray) × Bool :=
  if Nd.le e.key high then ((if lt e.key low then s.1 else s.1 ++ [e], s.2), true) else ((s.1, ofL e.key), false)
/-- What its function owns. -/
def aRan (g6 g7 g11 g12 : Nat) (low high : By) (s : List Ent × ByteArray) : Asn :=
  Asn.blk g7 9 #[.string (ofL high)] * (Asn.blk g6 9 #[.string (ofL low)] * (Asn.blk g12 9 #[.string s.2] *
    Asn.ex fun q : Option Addr × Nat => Asn.blk g11 27 #[.slice q.1 s.1.length q.2] * Asn.vec 44 3 (.slice q.1 s.1.length q.2) s.1.length (cells3 s.1)))
theorem exOpenL {w0 w : World} {O0 : Nat → Prop} {α : Type} {A : α → Asn} {B : Asn} (h : Own w0 O0 w (Asn.ex A * B)) : ∃ a, Own w0 O0 w (A a * B) := by
  obtain ⟨O, ⟨X, Y, ⟨a, hA⟩, hB, hd, hO⟩, hf⟩ := h.ex
  exact ⟨a, ⟨⟨O, ⟨X, Y, hA, hB, hd, hO⟩, hf⟩, h.chg⟩⟩
theorem exMkL {w0 w : World} {O0 : Nat → Prop} {α : Type} {A : α → Asn} {B : Asn} (a : α) (h : Own w0 O0 w (A a * B)) : Own w0 O0 w (Asn.ex A * B) := h.imp (Imp.l (fun _ _ h => ⟨a, h⟩))
theorem ran_mk {w0 w : World} {O0 : Nat → Prop} {g6 g7 g11 g12 : Nat} {low high : By} {l : List Ent} {en : ByteArray} {A : Option Addr} {c : Nat} {C : Asn}
    (h : Own w0 O0 w (Asn.blk g11 27 #[.slice A l.length c] * (Asn.vec 44 3 (.slice A l.length c) l.length (cells3 l) * (Asn.blk g7 9 #[.string (ofL high)] * (Asn.blk g6 9 #[.string (ofL low)] * (Asn.blk g12 9 #[.string en] * C)))))) :
    Own w0 O0 w (aRan g6 g7 g11 g12 low high (l, en) * C) := by
  unfold aRan
  have h1 := exMkL (A := fun q : Option Addr × Nat => Asn.blk g11 27 #[.slice q.1 l.length q.2] * Asn.vec 44 3 (.slice q.1 l.length q.2) l.length (cells3 l)) (A, c) (h.re (show _ = (Asn.blk g11 27 #[.slice A l.length c] * Asn.vec 44 3 (.slice A l.length c) l.length (cells3 l)) * (Asn.blk g7 9 #[.string (ofL high)] * (Asn.blk g6 9 #[.string (ofL low)] * (Asn.blk g12 9 #[.string en] * C))) by ac_rfl))
  exact h1.re (by ac_rfl)
theorem ran_open {w0 w : World} {O0 : Nat → Prop} {g6 g7 g11 g12 : Nat} {low high : By} {l : List Ent} {en : ByteArray} {C : Asn} (h : Own w0 O0 w (aRan g6 g7 g11 g12 low high (l, en) * C)) :
    ∃ A c, Own w0 O0 w (Asn.blk g11 27 #[.slice A l.length c] * (Asn.vec 44 3 (.slice A l.length c) l.length (cells3 l) * (Asn.blk g7 9 #[.string (ofL high)] * (Asn.blk g6 9 #[.string (ofL low)] * (Asn.blk g12 9 #[.string en] * C))))) := by
  unfold aRan at h
  obtain ⟨⟨A, c⟩, h⟩ := exOpenL (h.re (show _ = (Asn.ex fun q : Option Addr × Nat => Asn.blk g11 27 #[.slice q.1 l.length q.2] * Asn.vec 44 3 (.slice q.1 l.length q.2) l.length (cells3 l)) * (Asn.blk g7 9 #[.string (ofL high)] * (Asn.blk g6 9 #[.string (ofL low)] * (Asn.blk g12 9 #[.string en] * C))) by ac_rfl))
  exact ⟨A, c, h.re (by ac_rfl)⟩
theorem rstep_len (low high : By) (s : List Ent × ByteArray) (e : Ent) : (rstep low high s e).1.1.length ≤ s.1.length + 1 := by
  unfold rstep
  split
  · dsimp only
    split
    · omega
    · rw [List.length_append]; exact Nat.le_refl _
  · dsimp only; omega
/-- What Range comes to. -/
def minK (low high : By) : By := if Nd.le low high then low else high
theorem min_run (low high : By) (a : Array TypeId) (b : TypeId) (W : World) : (Builtin.min_ a b #[.string (ofL low), .string (ofL high)]).run Try.prog W = .ok (.string (ofL (minK low high))) W := by
  have h1 : Go.Op.bytesLess (ofL low).toList (ofL high).toList = lt low high := less low high
  have h2 : ((ofL low).toList = (ofL high).toList) ↔ low = high := ⟨fun h => Aid.ofL_inj (by rw [ByteArray.toList_eq, ByteArray.toList_eq] at h; exact list_inj h), fun h => by rw [h]⟩
  have e : ofL (minK low high) = if (lt low high || decide (low = high)) = true then ofL low else ofL high := by unfold minK Nd.le; split <;> rfl
  rw [e, ← h1]
  have h3 : decide (low = high) = decide ((ofL low).toList = (ofL high).toList) := decide_eq_decide.2 h2.symm
  rw [h3]
  generalize ofL low = x
  generalize ofL high = y
  simp [Builtin.min_, Builtin.min2, go_sem, Op.stringOp]
def ranR (S : Sf) (root : Int) (low high : By) : Nat × List Ent × ByteArray :=
  if (goR S (rstep low high) root (minK low high) ([], endB)).1 = 0 then (0, (goR S (rstep low high) root (minK low high) ([], endB)).2.1, (goR S (rstep low high) root (minK low high) ([], endB)).2.2) else ((goR S (rstep low high) root (minK low high) ([], endB)).1, [], ⟨#[]⟩)
section
variable (gs : Nat) (S : Sf) (V : Nat → Value)
end
end Go.Proofs.Yteiiogaopgfpfaa.Wk
end

-- joined
section
namespace Go.Proofs.Yteiiogaopgfpfaa.Wk
open Go.ChangeShapes Go.WideShapes Go.ChangeAt Go.RowKit Go.PlainAid Aid Nt Nd Tr Bk
set_option linter.unusedVariables false
set_option linter.unusedSimpArgs false
/-- The error alone: q says at which entry one stops. -/
def gonE (S : Sf) (q : Ent → Bool) : Nat → Int → Nat
  | 0, _ => 3
  | l + 1, p => match Bk.at_ S p with
    | none => 1
    | some n => if n.level ≠ 0 then 3 else if n.list.any q then 0 else if n.right = 0 then 0 else gonE S q l n.right
section
variable {σ : Type} (step : σ → Ent → σ × Bool) (q : Ent → Bool) (live : σ → Prop)
theorem scan_live (h : ∀ s e, live s → (step s e).2 = !q e ∧ (q e = false → live (step s e).1)) (l : List Ent) : ∀ s, live s → (scan step s l).2 = !l.any q ∧ (l.any q = false → live (scan step s l).1) := by
  induction l with
  | nil => intro s hs; exact ⟨rfl, fun _ => hs⟩
  | cons e l ih =>
    intro s hs
    obtain ⟨h1, h2⟩ := h s e hs
    rw [scan, List.any_cons]
    cases hq : q e with
    | true =>
      rw [hq] at h1
      rw [h1]
      simp
    | false =>
      rw [hq] at h1
      rw [h1]
      simpa using ih _ (h2 hq)
theorem gon_err (h : ∀ s e, live s → (step s e).2 = !q e ∧ (q e = false → live (step s e).1)) (S : Sf) : ∀ (l : Nat) (p : Int) (s : σ), live s → (gon S step l p s).1 = gonE S q l p
  | 0, p, s, hs => rfl
  | l + 1, p, s, hs => by
    rw [gon, gonE]
    cases hat : Bk.at_ S p with
    | none => rfl
    | some n =>
      dsimp only
      split
      · rfl
      · obtain ⟨h1, h2⟩ := scan_live step q live h n.list s hs
        rw [h1]
        cases ha : n.list.any q with
        | true => simp
        | false =>
          simp only [Bool.not_false, if_true, Bool.false_eq_true, if_false]
          split
          · rfl
          · exact gon_err h S l n.right _ (h2 ha)
end
theorem gonE_mono (S : Sf) {q1 q2 : Ent → Bool} (h : ∀ e, q1 e = true → q2 e = true) : ∀ (l : Nat) (p : Int), gonE S q1 l p = 0 → gonE S q2 l p = 0
  | 0, p, hz => hz
  | l + 1, p, hz => by
    rw [gonE] at hz ⊢
    cases hat : Bk.at_ S p with
    | none => rw [hat] at hz; exact hz
    | some n =>
      rw [hat] at hz
      dsimp only at hz ⊢
      by_cases hl : n.level ≠ 0
      · rw [if_pos hl] at hz; exact absurd hz (by decide)
      · rw [if_neg hl] at hz ⊢
        cases h2 : n.list.any q2 with
        | true => rw [if_pos rfl]
        | false =>
          have h1 : n.list.any q1 = false := by
            rw [List.any_eq_false] at h2 ⊢
            intro x hx hc
            exact h2 x hx (h x hc)
          rw [h1, if_neg (by decide)] at hz
          rw [if_neg (by decide)]
          split
          · rfl
          · rename_i hr
            rw [if_neg hr] at hz
            exact gonE_mono S h l n.right hz
theorem fir_live (q : Ent → Bool) (s : Option Ent) (e : Ent) (hs : s = none) : (fstep q s e).2 = !q e ∧ (q e = false → (fstep q s e).1 = none) := by
  subst hs
  unfold fstep
  cases q e <;> simp
theorem ran_live (low high : By) (s : List Ent × ByteArray) (e : Ent) (hs : True) : (rstep low high s e).2 = !aftQ high e ∧ (aftQ high e = false → True) := by
  unfold rstep aftQ
  refine ⟨?_, fun _ => trivial⟩
  cases Nd.le e.key high <;> rfl
theorem aft_nxt (key : By) (e : Ent) (h : aftQ key e = true) : nxtQ key e = true := by
  unfold aftQ Nd.le at h
  unfold nxtQ
  cases hl : lt e.key key
  · rfl
  · rw [hl] at h; simp at h
section
variable (S : Sf) (root : Int) (key : By)
theorem goR_err {σ : Type} (step : σ → Ent → σ × Bool) (q : Ent → Bool) (live : σ → Prop) (h : ∀ s e, live s → (step s e).2 = !q e ∧ (q e = false → live (step s e).1)) (s : σ) (hs : live s) :
    (goR S step root key s).1 = if (seek S 256 root 0 key).2.1 = 0 then gonE S q (257 - (pagesR S root 0 key).length) ((pagesR S root 0 key).getLastD 0) else (seek S 256 root 0 key).2.1 := by
  unfold goR
  split
  · exact gon_err step q live h S _ _ s hs
  · rfl
theorem firR_err (q : Ent → Bool) : (firR S root key q).1 = (goR S (fstep q) root key none).1 := by
  unfold firR
  split
  · rename_i h; exact h.symm
  · rfl
theorem minK_self : minK key key = key := by
  unfold minK
  split <;> rfl
theorem ranR_err : (ranR S root key key).1 = (goR S (rstep key key) root key ([], endB)).1 := by
  unfold ranR
  rw [minK_self]
  split
  · rename_i h; exact h.symm
  · rfl
theorem ends_bad (h : (seek S 256 root 0 key).2.1 ≠ 0) : (firR S root key (nxtQ key)).1 = (seek S 256 root 0 key).2.1 ∧ (firR S root key (nxtQ key)).2 = none ∧ (firR S root key (aftQ key)).1 = (seek S 256 root 0 key).2.1 ∧ (firR S root key (aftQ key)).2 = none ∧
    (gapR S root key).1 = (seek S 256 root 0 key).2.1 ∧ (ranR S root key key).1 = (seek S 256 root 0 key).2.1 ∧ (ranR S root key key).2.1 = [] ∧ (ranR S root key key).2.2 = ⟨#[]⟩ := by
  have hg : ∀ {σ : Type} (step : σ → Ent → σ × Bool) (k : By) (s : σ), k = key → goR S step root k s = ((seek S 256 root 0 key).2.1, s) := by
    intro σ step k s hk
    subst hk
    unfold goR
    rw [if_neg h]
  have hf : ∀ q, firR S root key q = ((seek S 256 root 0 key).2.1, none) := by
    intro q
    unfold firR
    rw [hg _ _ _ rfl]
    exact if_neg h
  have hr : ranR S root key key = ((seek S 256 root 0 key).2.1, [], ⟨#[]⟩) := by
    unfold ranR
    rw [hg _ _ _ (minK_self key)]
    exact if_neg h
  have hga : gapR S root key = ((seek S 256 root 0 key).2.1, ⟨#[]⟩) := by
    unfold gapR
    rw [hf]
    exact if_neg h
  rw [hf, hf, hr, hga]
  exact ⟨rfl, rfl, rfl, rfl, rfl, rfl, rfl, rfl⟩
theorem gap_err : (gapR S root key).1 = (firR S root key (aftQ key)).1 := by
  unfold gapR
  split
  · rename_i h
    rw [h]
    cases (firR S root key (aftQ key)).2 <;> rfl
  · rfl
theorem ends_ok (h : (seek S 256 root 0 key).2.1 = 0) (ha : (firR S root key (aftQ key)).1 = 0) : (firR S root key (nxtQ key)).1 = 0 ∧ (ranR S root key key).1 = 0 := by
  rw [firR_err, goR_err S root key (fstep (aftQ key)) (aftQ key) (· = none) (fun s e hs => fir_live _ s e hs) none rfl, if_pos h] at ha
  rw [firR_err, goR_err S root key (fstep (nxtQ key)) (nxtQ key) (· = none) (fun s e hs => fir_live _ s e hs) none rfl, if_pos h, ranR_err, goR_err S root key (rstep key key) (aftQ key) (fun _ => True) (fun s e hs => ran_live key key s e hs) _ trivial, if_pos h]
  exact ⟨gonE_mono S (aft_nxt key) _ _ ha, ha⟩
end
end Go.Proofs.Yteiiogaopgfpfaa.Wk
end
