/- Texts of ours, joined. -/
import Derived.Test.YthoaangmekkcmaaBmD
import Derived.Test.YthoaangmekkcmaaBkAc
import Derived.Test.YthoaangmekkcmaaBkAw
import Derived.Test.YthoaangmekkcmaaDyB
import Derived.Test.YthoaangmekkcmaaBkJ

-- joined
section
namespace Go.Proofs.Ythoaangmekkcmaa.Bk
open Nt Nd
set_option linter.unusedVariables false
set_option linter.unusedSimpArgs false
set_option linter.unusedSectionVars false
section
variable {S : Sf} {r : Nat} {t : Int} {top : Nat} {ch : Nat → List Nat}
theorem Tree.sk2 (T : Tree S r t top ch) (key : By) (hk : le low key = true) (lv : Nat) : ∀ (n : Nat) (A : List Nat) (l : By) (c : Nat) (B : List Nat) (left f : Nat) (path : List (Int × Nod)), lv + n ≤ top → Pos S t (lv + n) (ch (lv + n)) A l c B → le l key = true →
    B.length + belw ch (lv + n) ≤ left → n < f → ∃ left', left - (B.length + belw ch (lv + n)) ≤ left' ∧ Bk.sk S lv key f ⟨left, 0, c, S c⟩ path = (left', 0, path ++ way S ch key (lv + n) n)
  | 0, A, l, c, B, left, f, path, h1, h2, h3, h4, h5 => by
    obtain ⟨A', l', B', g1, g2, g3, g4⟩ := (T.lvl _ h1).find key hk
    obtain ⟨M, e1, e2⟩ := pos_ahead h2 g1 h3 g4 g3 g2
    have hM : M.length ≤ B.length := by have := congrArg List.length e2; simp only [List.length_cons, List.length_append] at this; omega
    obtain ⟨f, rfl⟩ : ∃ k, f = k + 1 := ⟨f - 1, by omega⟩
    have hr := rgt_to key M left h2.ok h2.post e2 (fun a ha => g4 a (by rw [e1]; simp [ha])) g3 (by omega)
    exact ⟨left - M.length, by omega, sk_at S lv key f _ ⟨left - M.length, 0, (fnd S key (ch (lv + 0)) : Int), S (fnd S key (ch (lv + 0)))⟩ path rfl hr.symm rfl g1.ok.lv⟩
  | n + 1, A, l, c, B, left, f, path, h1, h2, h3, h4, h5 => by
    obtain ⟨A', l', B', g1, g2, g3, g4⟩ := (T.lvl _ h1).find key hk
    obtain ⟨M, e1, e2⟩ := pos_ahead h2 g1 h3 g4 g3 g2
    have hM : M.length ≤ B.length := by have := congrArg List.length e2; simp only [List.length_cons, List.length_append] at this; omega
    obtain ⟨f, rfl⟩ : ∃ k, f = k + 1 := ⟨f - 1, by omega⟩
    have hr := rgt_to key M left h2.ok h2.post e2 (fun a ha => g4 a (by rw [e1]; simp [ha])) g3 (by omega)
    obtain ⟨i, e, A2, d, B2, k1, k2, k3, k4, k5, k6⟩ := T.down (L := lv + n) (by omega) g1 g2
    have hlen : (ch (lv + n)).length = A2.length + (B2.length + 1) := by rw [k4.eq]; simp
    have hb : belw ch (lv + (n + 1)) = belw ch (lv + n) + (ch (lv + n)).length := rfl
    have hd : d < 256 := T.bnd (lv + n) d (by omega) (by rw [k4.eq]; simp)
    have hbl := blw_to (S := S) (left := left - M.length) g1.ok.lv k2 k5 k6 hd k4.ok.lv (by omega)
    obtain ⟨left', hl', hs⟩ := T.sk2 key hk lv n A2 e.key d B2 (left - M.length - 1) f (path ++ [((fnd S key (ch (lv + (n + 1))) : Int), S (fnd S key (ch (lv + (n + 1)))))]) (by omega) k4 k3 (by omega) (by omega)
    refine ⟨left', by omega, ?_⟩
    rw [sk_go S lv key f _ _ path rfl hr.symm rfl (by rw [g1.ok.lv]; omega)]
    dsimp only
    rw [k1, hbl, hs, List.append_assoc]
    rfl
end
section
variable {S S' : Sf} {l : List Ent} {ps : List Du} {next top : Nat} {ch : Nat → List Nat}
/-- How many nodes there are. -/
theorem Wg.total (h : Wg S l ps next top ch) : belw ch (top + 1) ≤ 253 := by
  have h1 : (0 :: 1 :: 2 :: pags ch top).Nodup := by
    have hp : ∀ p, p ∈ pags ch top → 3 ≤ p := fun p hp => by
      obtain ⟨K, hK, hm⟩ := mem_pags.1 hp
      rcases h.pg K p hK hm with g | g <;> omega
    refine List.nodup_cons.2 ⟨fun g => ?_, List.nodup_cons.2 ⟨fun g => ?_, List.nodup_cons.2 ⟨fun g => ?_, h.tree.dist _ (Nat.le_refl _)⟩⟩⟩
    · simp at g; have := hp 0 g; omega
    · simp at g; have := hp 1 g; omega
    · have := hp 2 g; omega
  have h2 := nodup_len 256 _ h1 (fun x hx => by
    simp only [List.mem_cons] at hx
    rcases hx with rfl | rfl | rfl | hx
    · omega
    · omega
    · omega
    · obtain ⟨K, hK, hm⟩ := mem_pags.1 hx
      exact h.tree.bnd K x hK hm)
  rw [← pags_len]
  simp only [List.length_cons] at h2
  omega
theorem Wg.seek (h : Wg S l ps next top ch) (key : By) (hk : le low key = true) (lv : Nat) (hlv : lv ≤ top) : ∃ left', 1 ≤ left' ∧ Bk.seek S 256 3 lv key = (left', 0, way S ch key top (top - lv)) := by
  have ht := h.four
  have h1 := h.tree.pos
  have hf := h.total
  rw [belw, h.tree.root, List.length_singleton] at hf
  have e : lv + (top - lv) = top := by omega
  obtain ⟨left', hl', hs⟩ := h.tree.sk2 key hk lv (top - lv) [] low 3 [] 255 300 [] (by omega) (by rw [e]; exact h1) hk (by rw [e]; simp; omega) (by omega)
  refine ⟨left', by rw [e] at hl'; simp at hl'; omega, ?_⟩
  unfold Bk.seek
  rw [vis_succ, at_page _ (by omega) (by omega)]
  dsimp only
  rw [e] at hs
  exact hs
end
end Go.Proofs.Ythoaangmekkcmaa.Bk
end

-- joined
section
namespace Go.Proofs.Ythoaangmekkcmaa.Bk
open Nt Nd
set_option linter.unusedVariables false
set_option linter.unusedSimpArgs false
set_option linter.unusedSectionVars false
section
variable {S S' : Sf} {l : List Ent} {ps : List Du} {next top : Nat} {ch : Nat → List Nat}
end
end Go.Proofs.Ythoaangmekkcmaa.Bk
end

-- joined
section
namespace Go.Proofs.Ythoaangmekkcmaa.Bk
open Go.ChangeShapes Go.WideShapes Go.ChangeAt Go.RowKit Go.PlainAid Aid Nt Nd Tr
set_option linter.unusedVariables false
set_option linter.unusedSimpArgs false
set_option linter.unusedSectionVars false
def poL (ps : List Po) : List Value := ps.flatMap fun x => (poC x).toList
/-- The law's world. -/
def aWd (g gs : Nat) (S : Sf) (V : Nat → Value) (vl : Value) (l : List Ent) (vp : Value) (ps : List Po) (next : Int) : Asn :=
  Asn.blk g 30 #[sPtr gs, vl, vp, .int .i64 next] * (Asn.vec 44 3 vl l.length (cells3 l) * (Asn.vec 80 4 vp ps.length (poL ps) * aSf gs S V))
def S3 : Sf := puts T0 [(3, { Nod.none with tree := 2 })]
set_option maxRecDepth 100000 in
set_option maxHeartbeats 8000000 in
theorem start_any (w : World) :
    Calls Try.prog 9 #[] w fun e w' => ∃ g gs V, e = .returned (.pointer (some ⟨g, 0, none⟩)) ∧ Own w No w' (aWd g gs S3 V (.slice none 0 0) [] (.slice none 0 0) [] 4 * Asn.emp) := by
  go_enter Try.func9, Try.ntmps9
  go_wp2_with fail
  refine (New_any w).mono ?_
  rintro e w1 ⟨gs, V0, rfl, hX⟩
  have S1 := Lib.hid ((show Own w No w1 (aSf gs T0 V0 * Asn.emp) from hX.addEmp).alloc #[sPtr gs, .slice none 0 0, .slice none 0 0, .int .i64 4] 30)
  clear hX
  unfold sPtr at *
  go_wp2_with fail
  obtain ⟨g, hgz⟩ : ∃ g, g = w1.heap.size := ⟨_, rfl⟩
  rw [← hgz] at S1 ⊢
  have hsz : (w1.alloc (.cells #[.pointer (some ⟨gs, 0, none⟩), .slice none 0 0, .slice none 0 0, .int .i64 4] 30)).heap.size = g + 1 := by rw [World.size_alloc, hgz]
  clear hgz
  generalize World.alloc w1 _ = w2 at *
  have S2 := Lib.hid ((S1.out.nilVec 44 3).alloc #[.int .i64 3, .int .i64 2, .int .i64 0, .int .i64 0, .bool false, .string ⟨#[]⟩, .int .i64 0, .slice none 0 0] 73)
  rw [hsz] at S2
  clear hsz S1
  generalize World.alloc w2 _ = w3 at *
  have S3 := Lib.hid (S2.out.imp (Imp.l (blk_vec (cs := [.int .i64 3, .int .i64 2, .int .i64 0, .int .i64 0, .bool false, .string ⟨#[]⟩, .int .i64 0, .slice none 0 0]) 1 8 rfl (by decide))))
  clear S2
  have HPu := Lib.hid (ShPut_own gs T0 V0 [⟨3, { Nod.none with tree := 2 }, .slice none 0 0⟩] 1 rfl (.slice (some ⟨g + 1, 0, none⟩) 1 1) w w3 (Asn.blk g 30 #[.pointer (some ⟨gs, 0, none⟩), .slice none 0 0, .slice none 0 0, .int .i64 4] * Asn.emp) (by decide) (fun x hx => by obtain rfl := List.mem_singleton.1 hx; exact Nat.zero_le _)
    (S3.out.addEmp.re (show _ = Asn.vec 73 8 (.slice (some ⟨g + 1, 0, none⟩) 1 1) 1 [.int .i64 3, .int .i64 2, .int .i64 0, .int .i64 0, .bool false, .string ⟨#[]⟩, .int .i64 0, .slice none 0 0] * ((Asn.vec 44 3 (.slice none 0 0) 0 [] * Asn.emp) * (aSf gs T0 V0 * (Asn.blk g 30 #[.pointer (some ⟨gs, 0, none⟩), .slice none 0 0, .slice none 0 0, .int .i64 4] * Asn.emp))) by ac_rfl)))
  unfold sPtr at HPu
  clear S3
  go_wp2_with fail
  refine HPu.out.mono ?_
  rintro e w4 ⟨rfl, V1, hX⟩
  have S4 := Lib.hid ((hX.nilVec 44 3).nilVec 80 4)
  clear hX HPu
  go_wp2_with fail
  go_returns
  exact ⟨g, gs, V1, rfl, S4.out.re (show _ = (Asn.blk g 30 #[.pointer (some ⟨gs, 0, none⟩), .slice none 0 0, .slice none 0 0, .int .i64 4] * (Asn.vec 44 3 (.slice none 0 0) 0 [] * (Asn.vec 80 4 (.slice none 0 0) 0 [] * aSf gs S3 V1))) * Asn.emp by unfold S3; ac_rfl)⟩
end Go.Proofs.Ythoaangmekkcmaa.Bk
end

-- joined
section
namespace Go.Proofs.Ythoaangmekkcmaa.Bk
open Nt Nd
set_option linter.unusedVariables false
set_option linter.unusedSimpArgs false
set_option linter.unusedSectionVars false
section
variable {S : Sf} {l : List Ent} {ps : List Du} {next top L : Nat} {ch : Nat → List Nat}
/-- The start. -/
theorem wg_start : Wg (puts (fun _ => Nod.none) [(3, { Nod.none with tree := 2 })]) [] [] 4 0 (fun _ => [3]) := by
  have e : puts (fun _ => Nod.none) [(3, { Nod.none with tree := 2 })] = up (fun _ => Nod.none) 3 { Nod.none with tree := 2 } := puts_one _ 3 _ (by omega)
  rw [e]
  have e3 : up (fun _ => Nod.none) 3 { Nod.none with tree := 2 } 3 = { Nod.none with tree := 2 } := up_same ..
  refine ⟨⟨fun L hL => ?_, rfl, fun L hL => by omega, fun L hL => by simp, fun L K p h1 h2 _ _ => by omega, fun L p _ hp => ?_⟩, ?_, (fun e he => by cases he), fun K p _ hp => Or.inl (List.mem_singleton.1 hp), by omega, fun p hp => ?_, (fun x hx => by cases hx), fun L hL => by omega, fun L _ hL => by omega, fun h => by omega⟩
  · obtain rfl : L = 0 := by omega
    refine ⟨3, rfl, ⟨low, rfl, ?_⟩, ?_⟩
    · rw [e3]
      exact ⟨rfl, rfl, by decide, (fun e he => by cases he), (fun h => by cases h), (fun h => by cases h), fun _ => rfl, fun h => by omega⟩
    · rw [e3]
      exact ⟨rfl, rfl⟩
  · have := List.mem_singleton.1 hp
    omega
  · rw [lists_cons, e3]
    rfl
  · exact up_other _ _ _ _ fun g => hp 0 (Nat.zero_le _) (by rw [g]; simp)
theorem way_pages (S : Sf) (ch : Nat → List Nat) (key : By) : ∀ n L, (way S ch key L n).map (fun x => x.1) = (List.range (n + 1)).map fun j => (fnd S key (ch (L - j)) : Int)
  | 0, L => rfl
  | n + 1, L => by
    show (fnd S key (ch L) : Int) :: (way S ch key (L - 1) n).map (fun x => x.1) = _
    rw [way_pages S ch key n (L - 1), List.range_succ_eq_map (n := n + 1), List.map_cons, List.map_map]
    refine congrArg _ (List.map_congr_left fun j _ => ?_)
    simp only [Function.comp]
    rw [show L - 1 - j = L - (j + 1) by omega]
theorem Wg.pages (h : Wg S l ps next top ch) (key : By) (hk : key.length = 9) (lv : Nat) (hlv : lv ≤ top) : (Bk.seek S 256 3 lv key).2.1 = 0 ∧ pagesR S 3 lv key = (List.range (top - lv + 1)).map fun j => (fnd S key (ch (top - j)) : Int) := by
  obtain ⟨left', -, hs⟩ := h.seek key (low_le _ hk) lv hlv
  unfold pagesR
  rw [hs]
  exact ⟨rfl, way_pages ..⟩
theorem Wg.root3 (h : Wg S l ps next top ch) : (S 3).level = (top : Int) ∧ fnd S [] (ch top) = 3 := by
  refine ⟨h.tree.pos.ok.lv, ?_⟩
  obtain ⟨r1, r2, r3⟩ := root_has h.tree
  rw [h.tree.root]
  refine fnd_eq (A := []) (B := []) (by simp) ?_
  unfold cov
  rw [r1]
  rfl
end
end Go.Proofs.Ythoaangmekkcmaa.Bk
end

-- joined
section
namespace Go.Proofs.Ythoaangmekkcmaa.Wk
open Go.ChangeShapes Go.WideShapes Go.ChangeAt Go.RowKit Go.PlainAid Aid Nt Nd Tr Bk
set_option linter.unusedVariables false
set_option linter.unusedSimpArgs false
set_option linter.unusedSectionVars false
/-- The entries of a leaf, from a state on: the state behind them, and whether there is more to see. -/
def scan {σ : Type} (step : σ → Ent → σ × Bool) : σ → List Ent → σ × Bool
  | s, [] => (s, true)
  | s, e :: l => if (step s e).2 then scan step (step s e).1 l else ((step s e).1, false)
def gon (S : Sf) {σ : Type} (step : σ → Ent → σ × Bool) : Nat → Int → σ → Nat × σ
  | 0, _, s => (3, s)
  | l + 1, p, s => match at_ S p with
    | none => (1, s)
    | some n => if n.level ≠ 0 then (3, s) else
      if (scan step s n.list).2 then (if n.right = 0 then (0, (scan step s n.list).1) else gon S step l n.right (scan step s n.list).1) else (0, (scan step s n.list).1)
/-- What goOn comes to. -/
def goR (S : Sf) {σ : Type} (step : σ → Ent → σ × Bool) (root : Int) (key : By) (s : σ) : Nat × σ :=
  if (seek S 256 root 0 key).2.1 = 0 then gon S step (257 - (pagesR S root 0 key).length) ((pagesR S root 0 key).getLastD 0) s else ((seek S 256 root 0 key).2.1, s)
section
variable (gs : Nat) (S : Sf) (V : Nat → Value)
end
end Go.Proofs.Ythoaangmekkcmaa.Wk
end

-- joined
section
namespace Go.Proofs.Ythoaangmekkcmaa.Wk
open Go.ChangeShapes Go.WideShapes Go.ChangeAt Go.RowKit Go.PlainAid Aid Nt Nd Tr Bk
set_option linter.unusedVariables false
set_option linter.unusedSimpArgs false
set_option linter.unusedSectionVars false
/-- What first comes to. -/
def fstep (q : Ent → Bool) (s : Option Ent) (e : Ent) : Option Ent × Bool := if q e then (some e, false) else (s, !s.isSome)
/-- What Next and After come to. -/
def firR (S : Sf) (root : Int) (key : By) (q : Ent → Bool) : Nat × Option Ent :=
  if (goR S (fstep q) root key none).1 = 0 then (0, (goR S (fstep q) root key none).2) else ((goR S (fstep q) root key none).1, none)
section
variable (gs : Nat) (S : Sf) (V : Nat → Value)
end
end Go.Proofs.Ythoaangmekkcmaa.Wk
end

-- joined
section
namespace Go.Proofs.Ythoaangmekkcmaa.Wk
open Go.ChangeShapes Go.WideShapes Go.ChangeAt Go.RowKit Go.PlainAid Aid Nt Nd Tr Bk
set_option linter.unusedVariables false
set_option linter.unusedSimpArgs false
set_option linter.unusedSectionVars false
def nxtQ (key : By) (e : Ent) : Bool := !lt e.key key
def aftQ (key : By) (e : Ent) : Bool := !Nd.le e.key key
section
variable (gs : Nat) (S : Sf) (V : Nat → Value)
/-- What Gap comes to. -/
def endB : ByteArray := ⟨#[255, 255, 255, 255, 255, 255, 255, 255, 255]⟩
end
end Go.Proofs.Ythoaangmekkcmaa.Wk
end

-- joined
section
namespace Go.Proofs.Ythoaangmekkcmaa.Wk
open Go.ChangeShapes Go.WideShapes Go.ChangeAt Go.RowKit Go.PlainAid Aid Nt Nd Tr Bk
set_option linter.unusedVariables false
set_option linter.unusedSimpArgs false
set_option linter.unusedSectionVars false
/-- What Range gathers: the entries from low on, and the key of the first one above high. -/
def rstep (low high : By) (s : List Ent × ByteArray) (e : Ent) : (List Ent × ByteArray) × Bool :=
  if Nd.le e.key high then ((if lt e.key low then s.1 else s.1 ++ [e], s.2), true) else ((s.1, ofL e.key), false)
/-- What Range comes to. -/
def minK (low high : By) : By := if Nd.le low high then low else high
def ranR (S : Sf) (root : Int) (low high : By) : Nat × List Ent × ByteArray :=
  if (goR S (rstep low high) root (minK low high) ([], endB)).1 = 0 then (0, (goR S (rstep low high) root (minK low high) ([], endB)).2.1, (goR S (rstep low high) root (minK low high) ([], endB)).2.2) else ((goR S (rstep low high) root (minK low high) ([], endB)).1, [], ⟨#[]⟩)
section
variable (gs : Nat) (S : Sf) (V : Nat → Value)
end
end Go.Proofs.Ythoaangmekkcmaa.Wk
end

-- joined
section
namespace Go.Proofs.Ythoaangmekkcmaa.Wk
open Go.ChangeShapes Go.WideShapes Go.ChangeAt Go.RowKit Go.PlainAid Aid Nt Nd Tr Bk
set_option linter.unusedVariables false
set_option linter.unusedSimpArgs false
section
variable {σ : Type} (step : σ → Ent → σ × Bool) (q : Ent → Bool) (live : σ → Prop)
end
section
variable (S : Sf) (root : Int) (key : By)
end
end Go.Proofs.Ythoaangmekkcmaa.Wk
end

-- joined
section
namespace Go.Proofs.Ythoaangmekkcmaa.Wk
open Go.ChangeShapes Go.WideShapes Go.ChangeAt Go.RowKit Go.PlainAid Aid Nt Nd Tr Bk
set_option linter.unusedVariables false
set_option linter.unusedSimpArgs false
section
variable {σ : Type} (step : σ → Ent → σ × Bool)
theorem scan_append (l1 l2 : List Ent) : ∀ s, scan step s (l1 ++ l2) = if (scan step s l1).2 then scan step (scan step s l1).1 l2 else scan step s l1 := by
  induction l1 with
  | nil => intro s; rfl
  | cons e l ih =>
    intro s
    rw [List.cons_append, scan, scan]
    split
    · exact ih _
    · rfl
theorem gon_seg {S : Sf} {t : Int} : ∀ (A : List Nat) (lo : Option By) (p l : Nat) (s : σ), A ≠ [] → A.length ≤ l → (∀ a, a ∈ A → a < 256) → Seg S t 0 lo p A none 0 → gon S step l (p : Int) s = (0, (scan step s (lists S A)).1)
  | [], lo, p, l, s, h, _, _, _ => absurd rfl h
  | a :: A, lo, p, 0, s, _, hl, _, _ => by simp at hl
  | a :: A, lo, p, l + 1, s, _, hl, hb, hs => by
    obtain ⟨rfl, ⟨lo', rfl, ok⟩, hs2⟩ := hs
    have ha : p < 256 := hb p List.mem_cons_self
    rw [gon, at_page (S := S) (p : Int) (by omega) (by omega), show ((p : Int)).toNat = p from rfl]
    dsimp only
    rw [if_neg (by rw [ok.lv]; simp)]
    have e1 : lists S (p :: A) = (S p).list ++ lists S A := rfl
    rw [e1, scan_append]
    cases hm : (scan step s (S p).list).2 with
    | false => simp
    | true =>
      simp only [if_true]
      cases A with
      | nil =>
        obtain ⟨h1, h2⟩ := hs2
        have hn : (S p).has = false := by
          unfold hiN at h1
          cases h : (S p).has
          · rfl
          · rw [h] at h1; cases h1
        rw [if_pos (ok.nr hn)]
        rfl
      | cons b B =>
        have hs3 := hs2
        obtain ⟨h1, ⟨l', h2, ok2⟩, h3⟩ := hs2
        have hh : (S p).has = true := by
          unfold hiN at h2
          cases h : (S p).has
          · rw [h] at h2; cases h2
          · rfl
        have hr := ok.rt hh
        rw [if_neg hr]
        have hr2 := right_ok ok
        have e2 : (S p).right = (((S p).right.toNat : Nat) : Int) := by omega
        rw [e2]
        exact gon_seg (b :: B) _ _ l _ (by simp) (by simpa using hl) (fun a ha => hb a (List.mem_cons_of_mem _ ha)) hs3
end
theorem way_len (S : Sf) (ch : Nat → List Nat) (key : By) : ∀ n L, (way S ch key L n).length = n + 1
  | 0, L => rfl
  | n + 1, L => by rw [way, List.length_cons, way_len S ch key n]
theorem way_last (S : Sf) (ch : Nat → List Nat) (key : By) : ∀ n L, (way S ch key L n).getLast? = some ((fnd S key (ch (L - n)) : Int), S (fnd S key (ch (L - n))))
  | 0, L => rfl
  | n + 1, L => by
    rw [way, List.getLast?_cons, way_last S ch key n (L - 1), show L - 1 - n = L - (n + 1) by omega]
    rfl
section
variable {S : Sf} {r : Nat} {t : Int} {top : Nat} {ch : Nat → List Nat} {σ : Type} (step : σ → Ent → σ × Bool)
theorem tree_some (T : Tree S r t top ch) : ∀ L, L ≤ top → 0 < (ch L).length := by
  intro L hL
  obtain ⟨p0, h⟩ := T.lvl L hL
  cases hc : ch L with
  | nil => rw [hc] at h; cases h.1
  | cons a A => simp
theorem belw_ge (hne : ∀ L, L ≤ top → 0 < (ch L).length) : ∀ L, L ≤ top → (ch 0).length + L ≤ belw ch (L + 1)
  | 0, h => by unfold belw belw; omega
  | L + 1, h => by
    have := belw_ge hne L (by omega)
    have h2 := hne (L + 1) h
    rw [belw]
    omega
/-- From the leaf of a key on, all that is behind. -/
theorem tree_go (T : Tree S r t top ch) (key : By) (hk : le low key = true) (ht : top < 299) (s : σ) : ∃ A l B, Pos S t 0 (ch 0) A l (fnd S key (ch 0)) B ∧ le l key = true ∧ cov (S (fnd S key (ch 0))) key = true ∧ (∀ a, a ∈ A → cov (S a) key = false) ∧
    goR S step r key s = (0, (scan step s (lists S (fnd S key (ch 0) :: B))).1) := by
  obtain ⟨A, l, B, hp, h1, h2, h3⟩ := (T.lvl 0 (Nat.zero_le _)).find key hk
  refine ⟨A, l, B, hp, h1, h2, h3, ?_⟩
  obtain ⟨left', hs0⟩ := T.seek key hk 0 (Nat.zero_le _) ht
  have hs : Bk.seek S 256 r 0 key = (left', 0, way S ch key top (top - 0)) := hs0
  have hpg : pagesR S r 0 key = (way S ch key top top).map fun x => x.1 := by unfold pagesR; rw [hs]; rfl
  unfold goR
  rw [hs, if_pos rfl, hpg, List.length_map, way_len, List.getLastD_eq_getLast?, List.getLast?_map, way_last, Nat.sub_self]
  have hf := T.fits
  have hg := belw_ge (tree_some T) top (Nat.le_refl _)
  have hc : (ch 0).length = A.length + (B.length + 1) := by rw [hp.eq]; simp
  have hb : ∀ a, a ∈ fnd S key (ch 0) :: B → a < 256 := fun a ha => T.bnd 0 a (Nat.zero_le _) (by rw [hp.eq]; exact List.mem_append_right _ ha)
  simp only [Option.map_some, Option.getD_some]
  exact gon_seg step (fnd S key (ch 0) :: B) (Option.some l) _ _ s (by simp) (by rw [List.length_cons]; omega) hb ⟨rfl, ⟨l, rfl, hp.ok⟩, hp.post⟩
end
end Go.Proofs.Ythoaangmekkcmaa.Wk
end
