/- Texts of ours, joined. -/
import Derived.Test.YteiiogaopgfpfaaBmJ
import Derived.Test.YteiiogaopgfpfaaBmL
import Derived.Test.YteiiogaopgfpfaaBmK
import Derived.Test.YteiiogaopgfpfaaWkA
import Derived.Test.YteiiogaopgfpfaaNtP
import Derived.Laws.MakeOwn

-- joined
section
namespace Go.Proofs.Yteiiogaopgfpfaa.Bk
open Go.ChangeShapes Go.WideShapes Go.ChangeAt Go.RowKit Go.PlainAid Aid Nt Nd Tr
set_option linter.unusedVariables false
set_option linter.unusedSimpArgs false
set_option linter.unusedSectionVars false
set_option maxRecDepth 100000 in
set_option maxHeartbeats 4000000 in
theorem hang_none (g gs : Nat) (S : Sf) (V : Nat → Value) (vl : Value) (l : List Ent) (vp : Value) (n at_ : Int) (w0 w : World) (C : Asn) (hS : Own w0 No w (aWd g gs S V vl l vp [] n * C)) :
    Calls Try.prog 24 #[.pointer (some ⟨g, 0, none⟩), .int .i64 at_] w fun r w' => r = .returned (.bool true) ∧ Own w0 No w' (aWd g gs S V vl l vp [] n * C) := by
  unfold aWd sPtr at hS
  obtain ⟨A, c, hvp⟩ := (hS.re (show _ = Asn.vec 79 4 vp 0 [] * (Asn.blk g 30 #[.pointer (some ⟨gs, 0, none⟩), vl, vp, .int .i64 n] * (Asn.vec 44 3 vl l.length (cells3 l) * (aSf gs S V * C))) by
    rw [show poL [] = [] from rfl, List.length_nil]; ac_rfl)).vec.slice
  subst hvp
  have S0 := Lib.hid hS
  obtain ⟨c0, c1, c2, c3⟩ := post_cellsB (hS.has (Has.l (Has.l (has_blk g _ _))))
  clear c0 c1 c3 hS
  go_enter Try.func24, Try.ntmps24
  go_wp2_with fail
  go_returns
  refine ⟨rfl, ?_⟩
  unfold aWd sPtr
  exact S0.out
end Go.Proofs.Yteiiogaopgfpfaa.Bk
end

-- joined
section
namespace Go.Proofs.Yteiiogaopgfpfaa.Bk
open Go.ChangeShapes Go.WideShapes Go.ChangeAt Go.RowKit Go.PlainAid Aid Nt Nd Tr
open Ky (keyZ key_any)
set_option linter.unusedVariables false
set_option linter.unusedSimpArgs false
set_option linter.unusedSectionVars false
theorem key_act (K : Int) : ∃ q : Nat, q < 64 ∧ IntKind.i64.wrap ((IntKind.u64.wrap K).tmod 64) = (q : Int) := by
  obtain ⟨q, h1, h2⟩ := mod_u K 64 (by decide) (by decide)
  exact ⟨q, by omega, by rw [i64_is]; exact h1⟩
set_option maxRecDepth 100000 in
set_option maxHeartbeats 8000000 in
theorem do_hang (g : Nat) (K N : Int) (A : Asn) (F : Asn → Prop) (w0 w : World) (C : Asn) (hS : Own w0 No w (A * C))
    (HH : ∀ D W, Own w0 No W (A * D) → Calls Try.prog 24 #[.pointer (some ⟨g, 0, none⟩), .int .i64 N] W fun r w' => r = .returned (.bool true) ∧ ∃ B, F B ∧ Own w0 No w' (B * D)) :
    Calls Try.prog 9 #[.pointer (some ⟨g, 0, none⟩), .agg #[.int .i64 4, .int .i64 K, .int .i64 N]] w fun r w' => r = .returned (.bool true) ∧ ∃ B, F B ∧ Own w0 No w' (B * C) := by
  obtain ⟨q, hq, hqe⟩ := key_act K
  have S0 := Lib.hid (hS.alloc #[.int .i64 4, .int .i64 K, .int .i64 N] 33)
  have HHH := Lib.hid HH
  clear HH hS
  go_enter Try.func9, Try.ntmps9
  go_upto_region 1 with fail
  obtain ⟨ge, hgz⟩ : ∃ g, g = w.heap.size := ⟨_, rfl⟩
  rw [← hgz] at S0 ⊢
  clear hgz
  generalize World.alloc w _ = w1 at *
  obtain ⟨⟨e0, e1, e2⟩, -⟩ := three_ofE (S0.out.has (Has.l (has_blk ge _ _)))
  go_wp2_with fail
  refine (key_any q w1 (by omega) (by omega)).mono ?_
  rintro e w2 ⟨rfl, hX⟩
  have S1 := Lib.hid (S0.out.below hX)
  clear hX S0 e0 e1 e2
  obtain ⟨⟨e0, e1, e2⟩, -⟩ := three_ofE (S1.out.has (Has.l (has_blk ge _ _)))
  go_wp2_with fail
  refine (HHH.out _ _ (S1.out.re (show _ = A * (Asn.blk ge 33 #[.int .i64 4, .int .i64 K, .int .i64 N] * C) by ac_rfl))).mono ?_
  rintro e w3 ⟨rfl, B, hB, hX⟩
  have S2 := Lib.hid (hX.re (show _ = Asn.blk ge 33 #[.int .i64 4, .int .i64 K, .int .i64 N] * (B * C) by ac_rfl)).right
  clear hX S1 e0 e1 e2
  go_wp2_with fail
  go_returns
  exact ⟨rfl, B, hB, S2.out⟩
end Go.Proofs.Yteiiogaopgfpfaa.Bk
end

-- joined
section
namespace Go.Proofs.Yteiiogaopgfpfaa.Bk
open Go.ChangeShapes Go.WideShapes Go.ChangeAt Go.RowKit Go.PlainAid Aid Nt Nd Tr
open Ky (keyZ key_any)
set_option linter.unusedVariables false
set_option linter.unusedSimpArgs false
set_option linter.unusedSectionVars false
set_option maxRecDepth 100000 in
set_option maxHeartbeats 16000000 in
theorem do_drop (g gs : Nat) (S : Sf) (V : Nat → Value) (vl : Value) (l : List Ent) (vp : Value) (ps : List Du) (n top : Nat) (ch : Nat → List Nat) (K N : Int) (q : Nat) (hq : q < 64) (hqe : IntKind.i64.wrap ((IntKind.u64.wrap K).tmod 64) = (q : Int)) (hW : WS S l ps n top ch)
    (w0 w : World) (C : Asn) (hS : Own w0 No w (aWd g gs S V vl l vp (ps.map du) n * C)) :
    Calls Try.prog 9 #[.pointer (some ⟨g, 0, none⟩), .agg #[.int .i64 3, .int .i64 K, .int .i64 N]] w fun r w' => r = .returned (.bool true) ∧ ∃ S' V' vl', WS S' (del (keyZ q) l) ps n top ch ∧ Own w0 No w' (aWd g gs S' V' vl' (del (keyZ q) l) vp (ps.map du) n * C) := by
  have hk : (keyZ q).length = 9 := rfl
  have hdr := hW.wg.drop (keyZ q) hk
  have hmd := Wk.drop_md hW.sm hW.lo 3 (keyZ q)
  have HDr := Lib.hid (fun W C h => Drop_any gs S V hW.sm hW.lo 3 (keyZ q) w0 W C h)
  have hps2 := Wk.puts_md hW.sm hW.lo hmd.2
  have HRL := Lib.hid hW.wg.rowlen
  have HPL := Lib.hid hW.pl
  have HW := Lib.hid hW
  have S0 := Lib.hid (hS.alloc #[.int .i64 3, .int .i64 K, .int .i64 N] 33)
  unfold aWd sPtr at S0
  unfold pgs at HDr
  have HKA := Lib.hid (fun W => key_any q W (by omega) (by omega))
  generalize hkz : keyZ q = kz at *
  generalize hr : dropR S 3 kz = r at *
  obtain ⟨re, rc⟩ := r
  dsimp only at hdr hmd HDr hps2
  have HM := Lib.hid hmd
  have HD := Lib.hid hdr
  have HPS := Lib.hid hps2
  clear hdr hmd hps2 hW hS hr hkz
  go_enter Try.func9, Try.ntmps9
  go_upto_region 1 with fail
  obtain ⟨ge, hgz⟩ : ∃ g, g = w.heap.size := ⟨_, rfl⟩
  rw [← hgz] at S0 ⊢
  clear hgz
  generalize World.alloc w _ = w1 at *
  obtain ⟨⟨e0, e1, e2⟩, -⟩ := three_ofE (S0.out.has (Has.l (has_blk ge _ _)))
  go_wp2_with fail
  refine (HKA.out w1).mono ?_
  rintro e w2 ⟨rfl, hX⟩
  have S1 := Lib.hid (S0.out.below hX)
  clear hX S0 e0 e1 e2 HKA
  obtain ⟨⟨e0, e1, e2⟩, -⟩ := three_ofE (S1.out.has (Has.l (has_blk ge _ _)))
  obtain ⟨c0, c1, c2, c3⟩ := post_cellsB (S1.out.has (Has.r (Has.l (Has.l (has_blk g _ _)))))
  clear c1 c2 c3
  go_wp2_with fail
  refine (HDr.out _ _ (S1.out.re (show _ = aSf gs S V * (Asn.blk ge 33 #[.int .i64 3, .int .i64 K, .int .i64 N] * (Asn.blk g 30 #[.pointer (some ⟨gs, 0, none⟩), vl, vp, .int .i64 n] * (Asn.vec 44 3 vl l.length (cells3 l) * (Asn.vec 79 4 vp (ps.map du).length (poL (ps.map du)) * C)))) by ac_rfl))).mono ?_
  rintro e w3 ⟨v, L, rfl, hpc, hX⟩
  obtain ⟨A, c, hvs⟩ := hX.vec.slice
  subst hvs
  have S2 := Lib.hid hX
  clear hX S1 HDr e0 e1 e2 c0
  have hL3 : L.length = rc.length := by
    have h1 := congrArg List.length hpc
    simp only [plain, List.length_map] at h1
    exact h1
  obtain ⟨c0, c1, c2, c3⟩ := post_cellsB (S2.out.has (Has.r (Has.r (Has.r (Has.r (Has.l (has_blk g _ _)))))))
  clear c2 c3
  have HRd := Lib.hid (fun W (h : Row3 W vl l) => refDrop_any l kz vl W (by have := HRL.out; omega) h)
  rw [dropE_eq] at HRd
  dsimp only at HRd
  rcases HD.out with ⟨rfl, hmem, hwg⟩ | ⟨hr7, hmem, hdl⟩
  · rw [decide_eq_true hmem] at HRd
    as_aux_lemma =>
      have hc3 := HM.out.1
      have HN := Lib.hid (show WS (puts S rc) (del kz l) ps n top ch from ⟨hwg, HPS.out.1, HPS.out.2, HPL.out⟩)
      have HPu := Lib.hid (fun W D h => ShPut_own gs S V L L.length rfl (.slice A L.length c) w0 W D (by omega) (by rw [hpc]; exact fun x hx => (HM.out.2 x hx).1) h)
      rw [hpc] at HPu
      unfold sPtr at HPu
      clear hL3 hmem hwg HD HM HPS hc3 HW
      go_wp2_with fail
      refine (HRd.out _ (Row3.of_vec (S2.out.re (show _ = Asn.vec 44 3 vl l.length (cells3 l) * (Asn.vec 73 8 (.slice A L.length c) L.length (spL L) * (aLs L * (aSf gs S V * (Asn.blk ge 33 #[.int .i64 3, .int .i64 K, .int .i64 N] * (Asn.blk g 30 #[.pointer (some ⟨gs, 0, none⟩), vl, vp, .int .i64 n] * (Asn.vec 79 4 vp (ps.map du).length (poL (ps.map du)) * C)))))) by ac_rfl)).vec)).mono ?_
      rintro e w4 ⟨v7, rfl, hX⟩
      have hT := own_join S2.out hX
      obtain ⟨A8, c8, hv7⟩ := hT.vec.slice
      subst hv7
      have HX := Lib.hid hX
      clear hX hT c0 c1
      have S3 := Lib.hid (own_join S2.out HX.out)
      clear HX S2 HRd
      obtain ⟨c0, c1, c2, c3⟩ := post_cellsB (S3.out.has (Has.r (Has.r (Has.r (Has.r (Has.r (Has.l (has_blk g _ _))))))))
      have S3' := Lib.hid (S3.out.re (show _ = Asn.vec 73 8 (.slice A L.length c) L.length (spL L) * (aLs L * (aSf gs S V * ((Asn.blk ge 33 #[.int .i64 3, .int .i64 K, .int .i64 N] * (Asn.blk g 30 #[.pointer (some ⟨gs, 0, none⟩), vl, vp, .int .i64 n] * (Asn.vec 44 3 vl l.length (cells3 l) * (Asn.vec 79 4 vp (ps.map du).length (poL (ps.map du)) * C)))) * Asn.vec 44 3 (.slice A8 (del kz l).length c8) (del kz l).length (cells3 (del kz l))))) by ac_rfl))
      clear S3
      go_wp2_with fail
      refine (HPu.out _ _ S3'.out).mono ?_
      rintro e w5 ⟨rfl, V2, hX⟩
      have S4 := Lib.hid (hX.re (show _ = Asn.blk g 30 #[.pointer (some ⟨gs, 0, none⟩), vl, vp, .int .i64 n] * ((Asn.blk ge 33 #[.int .i64 3, .int .i64 K, .int .i64 N] * Asn.vec 44 3 vl l.length (cells3 l)) * (Asn.vec 44 3 (.slice A8 (del kz l).length c8) (del kz l).length (cells3 (del kz l)) * (Asn.vec 79 4 vp (ps.map du).length (poL (ps.map du)) * (aSf gs (puts S rc) V2 * C)))) by ac_rfl))
      clear hX HPu S3' c0 c1 c2 c3 hpc
      obtain ⟨c0, c1, c2, c3⟩ := post_cellsB (S4.out.has (Has.l (has_blk g _ _)))
      have f1 := (S4.out.has (Has.l (has_blk g _ _))).free 1
      go_upto_region 13 with fail
      have S5 := Lib.hid (S4.out.set (Sets.l (sets_blk g _ _ 1 (.slice A8 (del kz l).length c8))))
      simp only [List.setIfInBounds_toArray, List.set_cons_zero, List.set_cons_succ] at S5
      clear S4 c0 c1 c2 c3 f1
      generalize World.setCell w5 _ _ = w6 at *
      go_wp2_with fail
      go_returns
      refine ⟨rfl, puts S rc, V2, .slice A8 (del kz l).length c8, HN.out, ?_⟩
      unfold aWd sPtr
      exact (S5.out.re (show _ = (Asn.blk ge 33 #[.int .i64 3, .int .i64 K, .int .i64 N] * Asn.vec 44 3 vl l.length (cells3 l)) * ((Asn.blk g 30 #[.pointer (some ⟨gs, 0, none⟩), .slice A8 (del kz l).length c8, vp, .int .i64 n] * (Asn.vec 44 3 (.slice A8 (del kz l).length c8) (del kz l).length (cells3 (del kz l)) * (Asn.vec 79 4 vp (ps.map du).length (poL (ps.map du)) * aSf gs (puts S rc) V2))) * C) by ac_rfl)).right
  · rw [decide_eq_false hmem] at HRd
    as_aux_lemma =>
      obtain ⟨rfl, rfl⟩ := Prod.mk.inj hr7
      have hL0 : L.length = 0 := hL3
      rw [hL0] at S2 ⊢
      rw [hdl] at HRd
      have HDL := Lib.hid hdl
      clear hL3 hmem hr7 hdl HD HM HPS hpc hL0
      go_wp2_with fail
      refine (HRd.out _ (Row3.of_vec (S2.out.re (show _ = Asn.vec 44 3 vl l.length (cells3 l) * (Asn.vec 73 8 (.slice A 0 c) 0 (spL L) * (aLs L * (aSf gs S V * (Asn.blk ge 33 #[.int .i64 3, .int .i64 K, .int .i64 N] * (Asn.blk g 30 #[.pointer (some ⟨gs, 0, none⟩), vl, vp, .int .i64 n] * (Asn.vec 79 4 vp (ps.map du).length (poL (ps.map du)) * C)))))) by ac_rfl)).vec)).mono ?_
      rintro e w4 ⟨v7, rfl, hX⟩
      have S3 := Lib.hid (own_join S2.out hX).right.right.right
      clear hX S2 HRd c0 c1
      go_wp2_with fail
      go_returns
      refine ⟨rfl, S, V, vl, by rw [HDL.out]; exact HW.out, ?_⟩
      rw [HDL.out]
      unfold aWd sPtr
      exact (S3.out.re (show _ = Asn.blk ge 33 #[.int .i64 3, .int .i64 K, .int .i64 N] * ((Asn.blk g 30 #[.pointer (some ⟨gs, 0, none⟩), vl, vp, .int .i64 n] * (Asn.vec 44 3 vl l.length (cells3 l) * (Asn.vec 79 4 vp (ps.map du).length (poL (ps.map du)) * aSf gs S V))) * C) by ac_rfl)).right
end Go.Proofs.Yteiiogaopgfpfaa.Bk
end

-- joined
section
namespace Go.Proofs.Yteiiogaopgfpfaa.Aid
open Go.ChangeShapes Go.WideShapes Go.ChangeAt Go.RowKit Go.PlainAid
set_option linter.unusedVariables false

/-- A block of n cells, that may be written; the cell k holds f k. -/
def Tab (w : World) (b : Nat) (T : TypeId) (n : Nat) (f : Nat → Value) : Prop := Blk w b T (Array.ofFn (n := n) fun i => f i.1)
section
variable {w w' : World} {b n : Nat} {T : TypeId} {f h : Nat → Value}
theorem Tab.cell (t : Tab w b T n f) {i : Nat} (hi : i < n) : w.cell? ⟨b, i, none⟩ = some (f i) := by
  rw [Blk.cell t]; simp [hi]
theorem Tab.lt (t : Tab w b T n f) : b < w.heap.size := Blk.lt t
theorem Tab.other (t : Tab w b T n f) {p : Addr} (hp : b ≠ p.block) (u : Value) : Tab (w.setCell p u) b T n f := Blk.other t hp u
theorem Tab.new (w : World) (cs : Array Value) (T : TypeId) (hn : cs.size = n) (hf : ∀ k, k < n → cs[k]? = some (f k)) : Tab (w.alloc (.cells cs T)) w.heap.size T n f := by
  unfold Tab
  have : cs = Array.ofFn (n := n) fun i => f i.1 := by
    apply Array.ext
    · simp [hn]
    · intro k h1 h2
      have := hf k (by omega)
      rw [Array.getElem?_eq_getElem h1] at this
      simpa using this
  rw [← this]
  exact Blk.new _ _ _
theorem Tab.made (w : World) (z : Array Value) (n : Nat) (T : TypeId) : Tab (w.alloc (.cells (madeCells z n) T)) w.heap.size T n (fun k => z[k % z.size]!) :=
  Tab.new _ _ _ (size_madeCells _ _) (fun k hk => by simp [madeCells, hk])
/-- make([]T, n): an equation for every world. -/
theorem make_rows {P : Program} (t e : TypeId) (z : Value) (size bytes : Nat) (ht : P.underlying t = some (.slice e)) (hinfo : (P.info? e).map (fun i => (i.zero, i.size, i.bytes)) = some (some z, size, bytes))
    (kl kc : IntKind) (n : Nat) (hbytes : bytes * n ≤ 281474976710656) (h63 : n ≤ 9223372036854775807) (w : World) :
    (Instr.makeSlice t (.int kl (n : Int)) (.int kc (n : Int))).run P w = .ok (.slice (some ⟨w.heap.size, 0, none⟩) n n) (w.alloc (.cells (madeCells z.cells (n * size)) e)) := by
  obtain ⟨i, hi, hzz⟩ := Option.map_eq_some_iff.1 hinfo
  simp only [Prod.mk.injEq] at hzz
  obtain ⟨hz, hs, hb⟩ := hzz
  subst hs hb
  have hb' : (i.bytes : Int) * (n : Int) ≤ 281474976710656 := by
    have h : ((i.bytes * n : Nat) : Int) ≤ 281474976710656 := by omega
    rwa [Int.natCast_mul] at h
  have hr := run_make (P := P) w t e i z ht hi hz kl kc n n (by omega) (Int.le_refl _) hb' (by omega)
  simp only [Int.toNat_natCast] at hr
  exact hr
theorem Tab.drewN (t : Tab w b T n f) (k : Nat) : Tab (w.drewN k) b T n f := t
end
end Go.Proofs.Yteiiogaopgfpfaa.Aid
end
