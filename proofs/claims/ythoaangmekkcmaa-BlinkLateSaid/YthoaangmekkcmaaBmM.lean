/- Texts of ours, joined. -/
import Derived.Test.YthoaangmekkcmaaBmJ
import Derived.Test.YthoaangmekkcmaaBmL
import Derived.Test.YthoaangmekkcmaaBmK
import Derived.Test.YthoaangmekkcmaaWkU
import Derived.Test.YthoaangmekkcmaaAid
import Derived.Laws.MakeOwn
import Derived.Test.YthoaangmekkcmaaBkAc

-- joined
section
namespace Go.Proofs.Ythoaangmekkcmaa.Bk
open Go.ChangeShapes Go.WideShapes Go.ChangeAt Go.RowKit Go.PlainAid Aid Nt Nd Tr
set_option linter.unusedVariables false
set_option linter.unusedSimpArgs false
set_option linter.unusedSectionVars false
end Go.Proofs.Ythoaangmekkcmaa.Bk
end

-- joined
section
namespace Go.Proofs.Ythoaangmekkcmaa.Bk
open Go.ChangeShapes Go.WideShapes Go.ChangeAt Go.RowKit Go.PlainAid Aid Nt Nd Tr
open Ky (keyZ key_any)
set_option linter.unusedVariables false
set_option linter.unusedSimpArgs false
set_option linter.unusedSectionVars false
theorem key_act (K : Int) : ∃ q : Nat, q < 64 ∧ IntKind.i64.wrap ((IntKind.u64.wrap K).tmod 64) = (q : Int) := by
  obtain ⟨q, h1, h2⟩ := mod_u K 64 (by decide) (by decide)
  exact ⟨q, by omega, by rw [i64_is]; exact h1⟩
end Go.Proofs.Ythoaangmekkcmaa.Bk
end

-- joined
section
namespace Go.Proofs.Ythoaangmekkcmaa.Bk
open Go.ChangeShapes Go.WideShapes Go.ChangeAt Go.RowKit Go.PlainAid Aid Nt Nd Tr
open Ky (keyZ key_any)
set_option linter.unusedVariables false
set_option linter.unusedSimpArgs false
set_option linter.unusedSectionVars false
end Go.Proofs.Ythoaangmekkcmaa.Bk
end

-- joined
section
namespace Go.Proofs.Ythoaangmekkcmaa.Aid
open Go.ChangeShapes Go.WideShapes Go.ChangeAt Go.RowKit Go.PlainAid
set_option linter.unusedVariables false

/-- A block of n cells, that may be written; the cell k holds f k. -/
def Tab (w : World) (b : Nat) (T : TypeId) (n : Nat) (f : Nat → Value) : Prop := Blk w b T (Array.ofFn (n := n) fun i => f i.1)
section
variable {w w' : World} {b n : Nat} {T : TypeId} {f h : Nat → Value}
theorem Tab.cell (t : Tab w b T n f) {i : Nat} (hi : i < n) : w.cell? ⟨b, i, none⟩ = some (f i) := by
  rw [Blk.cell t]; simp [hi]
theorem Tab.lt (t : Tab w b T n f) : b < w.heap.size := Blk.lt t
theorem Tab.other (t : Tab w b T n f) {p : Addr} (hp : b ≠ p.block) (u : Value) : Tab (w.setCell p u) b T n f := Blk.other t hp u
theorem Tab.new (w : World) (cs : Array Value) (T : TypeId) (hn : cs.size = n) (hf : ∀ k, k < n → cs[k]? = some (f k)) : Tab (w.alloc (.cells cs T)) w.heap.size T n f := by
  unfold Tab
  have : cs = Array.ofFn (n := n) fun i => f i.1 := by
    apply Array.ext
    · simp [hn]
    · intro k h1 h2
      have := hf k (by omega)
      rw [Array.getElem?_eq_getElem h1] at this
      simpa using this
  rw [← this]
  exact Blk.new _ _ _
theorem Tab.made (w : World) (z : Array Value) (n : Nat) (T : TypeId) : Tab (w.alloc (.cells (madeCells z n) T)) w.heap.size T n (fun k => z[k % z.size]!) :=
  Tab.new _ _ _ (size_madeCells _ _) (fun k hk => by simp [madeCells, hk])
/-- make([]T, n): an equation for every world. -/
theorem make_rows {P : Program} (t e : TypeId) (z : Value) (size bytes : Nat) (ht : P.underlying t = some (.slice e)) (hinfo : (P.info? e).map (fun i => (i.zero, i.size, i.bytes)) = some (some z, size, bytes))
    (kl kc : IntKind) (n : Nat) (hbytes : bytes * n ≤ 281474976710656) (h63 : n ≤ 9223372036854775807) (w : World) :
    (Instr.makeSlice t (.int kl (n : Int)) (.int kc (n : Int))).run P w = .ok (.slice (some ⟨w.heap.size, 0, none⟩) n n) (w.alloc (.cells (madeCells z.cells (n * size)) e)) := by
  obtain ⟨i, hi, hzz⟩ := Option.map_eq_some_iff.1 hinfo
  simp only [Prod.mk.injEq] at hzz
  obtain ⟨hz, hs, hb⟩ := hzz
  subst hs hb
  have hb' : (i.bytes : Int) * (n : Int) ≤ 281474976710656 := by
    have h : ((i.bytes * n : Nat) : Int) ≤ 281474976710656 := by omega
    rwa [Int.natCast_mul] at h
  have hr := run_make (P := P) w t e i z ht hi hz kl kc n n (by omega) (Int.le_refl _) hb' (by omega)
  simp only [Int.toNat_natCast] at hr
  exact hr
theorem Tab.drewN (t : Tab w b T n f) (k : Nat) : Tab (w.drewN k) b T n f := t
end
end Go.Proofs.Ythoaangmekkcmaa.Aid
end

-- joined
section
namespace Go.Proofs.Ythoaangmekkcmaa.Bk
open Go.ChangeShapes Go.WideShapes Go.ChangeAt Go.RowKit Go.PlainAid Aid Nt Nd Tr
open Ky (keyZ key_any)
set_option linter.unusedVariables false
set_option linter.unusedSimpArgs false
set_option linter.unusedSectionVars false
theorem mkc {w0 W : World} {D : Asn} {gm z : Nat} (h : Own w0 No W (Asn.blk gm 5 (madeCells #[.int .u8 0] z) * D)) : (convert 63 9 (.slice (some ⟨gm, 0, none⟩) z z)).run Try.prog W = .ok (.string (ofL (List.replicate z 0))) W := by
  have hb := h.has (Has.l (has_blk gm _ _))
  refine conv_row Try.underlying63 Try.underlying5 Try.underlying9 gm 0 z (List.replicate z 0) (fun i x hx => ?_) z (by simp)
  obtain ⟨hi, rfl⟩ := List.getElem?_eq_some_iff.1 hx
  simp at hi
  rw [Nat.zero_add, hb.cell i, List.getElem_replicate]
  simp [madeCells, hi, Nat.mod_one]
end Go.Proofs.Ythoaangmekkcmaa.Bk
end

-- joined
section
namespace Go.Proofs.Ythoaangmekkcmaa.Bk
open Go.ChangeShapes Go.WideShapes Go.ChangeAt Go.RowKit Go.PlainAid Aid Nt Nd Tr
open Ky (keyZ key_any)
set_option linter.unusedVariables false
set_option linter.unusedSimpArgs false
set_option linter.unusedSectionVars false
end Go.Proofs.Ythoaangmekkcmaa.Bk
end

-- joined
section
namespace Go.Proofs.Ythoaangmekkcmaa.Bk
open Go.ChangeShapes Go.WideShapes Go.ChangeAt Go.RowKit Go.PlainAid Aid Nt Nd Tr
open Ky (keyZ key_any)
set_option linter.unusedVariables false
set_option linter.unusedSimpArgs false
set_option linter.unusedSectionVars false
theorem Wg.small {S : Sf} {l : List Ent} {ps : List Du} {n top : Nat} {ch : Nat → List Nat} (h : Wg S l ps n top ch) : Sm S ∧ LvOk S := by
  have ht := h.four
  have hk : ∀ p, (S p).list.length ≤ 99999 ∧ (S p).level ≤ 9223372036854775807 := fun p => by
    by_cases hp : ∃ K, K ≤ top ∧ p ∈ ch K
    · obtain ⟨K, hK, hm⟩ := hp
      obtain ⟨A, B, e⟩ := List.append_of_mem hm
      have hl := h.tree.lvl K hK
      rw [e] at hl
      obtain ⟨l', hp⟩ := hl.pos
      have h1 := fits_len hp.ok.ft
      have h2 := hp.ok.lv
      exact ⟨by omega, by omega⟩
    · rw [h.out p (fun K hK hm => hp ⟨K, hK, hm⟩)]
      exact ⟨Nat.zero_le _, by decide⟩
  exact ⟨fun p _ => (hk p).1, fun p _ => (hk p).2⟩
theorem WS.of {S : Sf} {l : List Ent} {ps : List Du} {n top : Nat} {ch : Nat → List Nat} (h : Wg S l ps n top ch) (hp : ps.length ≤ n) : WS S l ps n top ch := ⟨h, h.small.1, h.small.2, hp⟩
end Go.Proofs.Ythoaangmekkcmaa.Bk
end

-- joined
section
namespace Go.Proofs.Ythoaangmekkcmaa.Bk
open Go.ChangeShapes Go.WideShapes Go.ChangeAt Go.RowKit Go.PlainAid Aid Nt Nd Tr
set_option linter.unusedVariables false
set_option linter.unusedSimpArgs false
set_option linter.unusedSectionVars false
theorem info_node : (Try.prog.info? 52).map (fun i => (i.zero, i.size, i.bytes)) = some (some (Value.agg #[.int .i64 0, .int .i64 0, .int .i64 0, .bool false, .string ⟨#[]⟩, .int .i64 0, .slice none 0 0]), 7, 80) := by kernel_rfl
/-- Nodes in a row, each with a list of its own. -/
def ndL (L : List Sp) : List Value := L.flatMap fun x => (nodCells x.nd x.v).toList
theorem ndL_snoc (L : List Sp) (x : Sp) : ndL (L ++ [x]) = ndL L ++ (nodCells x.nd x.v).toList := by unfold ndL; rw [List.flatMap_append]; simp
theorem ndL_at (L : List Sp) (q j : Nat) (x : Sp) (h : L[q]? = some x) (hj : j < 7) : (ndL L)[q * 7 + j]? = (nodCells x.nd x.v)[j]? := by
  unfold ndL
  rw [flatMap_at _ 7 (fun _ => rfl) L q j x h hj, Array.getElem?_toList]
/-- All pages up to one, in memory. -/
def aPg (A : Option Addr) (n c : Nat) (L : List Sp) : Asn := Asn.vec 52 7 (.slice A n c) n (ndL L) * aLs L
def PgOk (S : Sf) (n : Nat) (L : List Sp) : Prop := L.map (fun x => x.nd) = (List.range n).map S
theorem PgOk.at {S : Sf} {n : Nat} {L : List Sp} (h : PgOk S n L) {q : Nat} (hq : q < n) : ∃ x, L[q]? = some x ∧ x.nd = S q := by
  have h1 : (L.map (fun x => x.nd))[q]? = some (S q) := by rw [h, List.getElem?_map, List.getElem?_range hq]; rfl
  rw [List.getElem?_map] at h1
  obtain ⟨x, hx, e⟩ := Option.map_eq_some_iff.1 h1
  exact ⟨x, hx, e⟩
set_option maxRecDepth 100000 in
set_option maxHeartbeats 16000000 in
theorem pages_any (g gs : Nat) (S : Sf) (V : Nat → Value) (vl : Value) (l : List Ent) (vp : Value) (ps : List Po) (n : Nat) (hs : Sm S) (hn : n ≤ 256)
    (w0 w : World) (C : Asn) (hS : Own w0 No w (aWd g gs S V vl l vp ps n * C)) :
    Calls Try.prog 12 #[.pointer (some ⟨g, 0, none⟩)] w fun r w' => ∃ A c L, r = .returned (.slice A n c) ∧ PgOk S n L ∧ Own w0 No w' (aPg A n c L * (aWd g gs S V vl l vp ps n * C)) := by
  unfold aWd sPtr at *
  have HNd := Lib.hid (fun p W C h => Node_any gs S V hs.small p w0 W C h)
  have hnr : ∀ k : Nat, k < 256 → nodeR S (k : Int) = (0, S k) := fun k hk => by
    unfold nodeR
    rw [at_page _ (by omega) (by omega)]
    rfl
  have HNR := Lib.hid hnr
  have S0 := Lib.hid ((hS.re (show _ = aSf gs S V * (Asn.blk g 30 #[.pointer (some ⟨gs, 0, none⟩), vl, vp, .int .i64 n] * (Asn.vec 44 3 vl l.length (cells3 l) * (Asn.vec 80 4 vp ps.length (poL ps) * C))) by ac_rfl)).alloc #[] 52)
  obtain ⟨R, hR⟩ : ∃ R : Asn, R = Asn.vec 44 3 vl l.length (cells3 l) * (Asn.vec 80 4 vp ps.length (poL ps) * C) := ⟨_, rfl⟩
  rw [← hR] at S0
  clear hS hnr
  go_enter Try.func12, Try.ntmps12
  go_upto_region 2 with fail
  obtain ⟨g3, hgz⟩ : ∃ g, g = w.heap.size := ⟨_, rfl⟩
  rw [← hgz] at S0 ⊢
  clear hgz
  generalize World.alloc w _ = w1 at *
  have S1 := Lib.hid (show Own w0 No w1 (Asn.vec 52 7 (.slice (some ⟨g3, 0, none⟩) 0 0) 0 (ndL []) * (aLs [] * (aSf gs S V * (Asn.blk g 30 #[.pointer (some ⟨gs, 0, none⟩), vl, vp, .int .i64 n] * R)))) from by
    have := S0.out.imp (Imp.l (blk_vec (cs := []) 0 7 rfl (by decide)))
    rw [show aLs [] = Asn.emp from rfl, emp_mul]
    exact this)
  clear S0
  go_wp2_with fail
  go_loopw [3, 4] (fun s3 i wr => ∃ (k : Nat) (A : Option Addr) (c : Nat) (L : List Sp), k ≤ n ∧ i = .int .i64 k ∧ s3 = .slice A k c ∧ Hid (PgOk S k L) ∧ Hid (Own w0 No wr (Asn.vec 52 7 (.slice A k c) k (ndL L) * (aLs L * (aSf gs S V * (Asn.blk g 30 #[.pointer (some ⟨gs, 0, none⟩), vl, vp, .int .i64 n] * R)))))) (fun _ i _ => n - (intOf i).toNat)
  case atStart => exact ⟨0, _, _, [], by omega, rfl, rfl, Lib.hid rfl, S1⟩
  case round =>
    clear S1
    obtain ⟨k, A, c, L, hk, rfl, rfl, HL, S1⟩ := hrel
    obtain ⟨c0, c1, c2, c3⟩ := post_cellsB (S1.out.has (Has.r (Has.r (Has.r (Has.l (has_blk g _ _))))))
    clear c1 c2
    by_cases hlt : k < n
    · have hltI : (k : Int) < (n : Int) := by omega
      have HNk := Lib.hid (HNd.out k)
      rw [HNR.out k (by omega)] at HNk
      dsimp only at HNk
      go_wp2_with fail
      refine (HNk.out _ _ (S1.out.re (show _ = aSf gs S V * (Asn.vec 52 7 (.slice A k c) k (ndL L) * (aLs L * (Asn.blk g 30 #[.pointer (some ⟨gs, 0, none⟩), vl, vp, .int .i64 n] * R))) by ac_rfl))).mono ?_
      rintro e w3 ⟨v, rfl, hX⟩
      obtain ⟨B, d, rfl⟩ := (show Own w0 No w3 (Asn.vec 44 3 v (S k).list.length (cells3 (S k).list) * _) from hX).vec.slice
      unfold nodCells
      have S2 := Lib.hid (hX.alloc #[.int .i64 (S k).tree, .int .i64 (S k).level, .int .i64 (S k).stamp, .bool (S k).has, .string (ofL (S k).high), .int .i64 (S k).right, .slice B (S k).list.length d] 52)
      clear hX S1 HNk c0 c3
      go_upto_region 6 with fail
      obtain ⟨gd, hgz⟩ : ∃ g, g = w3.heap.size := ⟨_, rfl⟩
      rw [← hgz] at S2 ⊢
      clear hgz
      generalize World.alloc w3 _ = w4 at *
      obtain ⟨⟨d0, d1, d2, d3, d4, d5, d6⟩, -⟩ := seven7 (S2.out.has (Has.l (has_blk gd _ _)))
      have S3 := Lib.hid (((S2.out.alloc #[.int .i64 (S k).tree, .int .i64 (S k).level, .int .i64 (S k).stamp, .bool (S k).has, .string (ofL (S k).high), .int .i64 (S k).right, .slice B (S k).list.length d] 52)).re (show _ = Asn.vec 52 7 (.slice A k c) k (ndL L) * (Asn.blk w4.heap.size 52 #[.int .i64 (S k).tree, .int .i64 (S k).level, .int .i64 (S k).stamp, .bool (S k).has, .string (ofL (S k).high), .int .i64 (S k).right, .slice B (S k).list.length d] * (Asn.blk gd 52 #[.int .i64 (S k).tree, .int .i64 (S k).level, .int .i64 (S k).stamp, .bool (S k).has, .string (ofL (S k).high), .int .i64 (S k).right, .slice B (S k).list.length d] * (Asn.vec 44 3 (.slice B (S k).list.length d) (S k).list.length (cells3 (S k).list) * (aLs L * (aSf gs S V * (Asn.blk g 30 #[.pointer (some ⟨gs, 0, none⟩), vl, vp, .int .i64 n] * R)))))) by unfold aEnts; ac_rfl))
      have CX : Hid (Src Try.prog 7 35 (.slice (some ⟨w4.heap.size, 0, none⟩) 1 1) 1 [.int .i64 (S k).tree, .int .i64 (S k).level, .int .i64 (S k).stamp, .bool (S k).has, .string (ofL (S k).high), .int .i64 (S k).right, .slice B (S k).list.length d] (w4.alloc (.cells #[.int .i64 (S k).tree, .int .i64 (S k).level, .int .i64 (S k).stamp, .bool (S k).has, .string (ofL (S k).high), .int .i64 (S k).right, .slice B (S k).list.length d] 52))) := Lib.hid (src_blk Try.underlying35 (Blk.new w4 #[.int .i64 (S k).tree, .int .i64 (S k).level, .int .i64 (S k).stamp, .bool (S k).has, .string (ofL (S k).high), .int .i64 (S k).right, .slice B (S k).list.length d] 52) rfl (by intro u hu; simp at hu; rcases hu with rfl | rfl | rfl | rfl | rfl | rfl | rfl <;> rfl))
      clear S2
      go_wp2_with (with_reducible refine wpList_append_vec rfl (.tmp 25) (.tmp 27) 35 35 rfl 52 _ 7 80 Try.underlying35 info_node ?c1 ?c2 (.slice A k c) k (ndL L) ?c7 S3.out.vec (.slice (some ⟨w4.heap.size, 0, none⟩) 1 1) ?c8 1 _ CX.out ?c3 ?c4 ?_)
      case c1 => rfl
      case c2 => decide
      case c3 => unfold maxLen; omega
      case c4 => omega
      try (case c7 => rfl)
      try (case c8 => rfl)
      intro v' w5 hv hc hf
      have S4 := Lib.hid (S3.out.app hv hc hf)
      obtain ⟨A5, c5, rfl⟩ := hv.slice
      clear S3 CX hv hc hf d0 d1 d2 d3 d4 d5 d6
      have HL2 : Hid (PgOk S (k + 1) (L ++ [⟨0, S k, .slice B (S k).list.length d⟩])) := Lib.hid (by
        have := HL.out
        unfold PgOk at this ⊢
        rw [List.map_append, this, List.range_succ, List.map_append]
        rfl)
      have S5 := Lib.hid (show Own w0 No w5 (Asn.vec 52 7 (.slice A5 (k + 1) c5) (k + 1) (ndL (L ++ [⟨0, S k, .slice B (S k).list.length d⟩])) * (aLs (L ++ [⟨0, S k, .slice B (S k).list.length d⟩]) * (aSf gs S V * (Asn.blk g 30 #[.pointer (some ⟨gs, 0, none⟩), vl, vp, .int .i64 n] * R)))) from by
        rw [ndL_snoc, aLs_snoc]
        exact (S4.out.re (show _ = (Asn.blk w4.heap.size 52 #[.int .i64 (S k).tree, .int .i64 (S k).level, .int .i64 (S k).stamp, .bool (S k).has, .string (ofL (S k).high), .int .i64 (S k).right, .slice B (S k).list.length d] * Asn.blk gd 52 #[.int .i64 (S k).tree, .int .i64 (S k).level, .int .i64 (S k).stamp, .bool (S k).has, .string (ofL (S k).high), .int .i64 (S k).right, .slice B (S k).list.length d]) * (Asn.vec 52 7 (.slice A5 (k + 1) c5) (k + 1) (ndL L ++ [.int .i64 (S k).tree, .int .i64 (S k).level, .int .i64 (S k).stamp, .bool (S k).has, .string (ofL (S k).high), .int .i64 (S k).right, .slice B (S k).list.length d]) * (Asn.vec 44 3 (.slice B (S k).list.length d) (S k).list.length (cells3 (S k).list) * aLs L * (aSf gs S V * (Asn.blk g 30 #[.pointer (some ⟨gs, 0, none⟩), vl, vp, .int .i64 n] * R)))) by ac_rfl)).right)
      clear S4
      go_wp2_with fail
      go_roundw
      case rel => exact ⟨k + 1, A5, c5, _, by omega, by go_num, rfl, HL2, S5⟩
      case measure => simp only [intOf]; omega
    · obtain rfl : k = n := by omega
      go_wp2_with fail
      go_returns
      rw [hR] at S1
      exact ⟨A, c, L, rfl, HL.out, S1.out.re (by unfold aPg; ac_rfl)⟩
end Go.Proofs.Ythoaangmekkcmaa.Bk
end
