/- Plans: a row's entry; trees and pages. -/
import Derived.Test.YtoofoalpffoheaaPnH
import Derived.Test.YtoofoalpffoheaaSgZ
namespace Go.Proofs.Ytoofoalpffoheaa.Pn
open Go.ChangeShapes Go.WideShapes Go.ChangeAt Go.RowKit Go.PlainAid Aid
open Sg (V goodV inV VReads VAt goodB codeS rowB codeB rowO rowV)
set_option linter.unusedVariables false
set_option linter.unusedSimpArgs false
theorem vreads_tail {W : World} {b o : Nat} {v : Sg.V} {l : List Sg.V} (h : VReads W (some ⟨b, o, none⟩) (v :: l)) : VReads W (some ⟨b, o + 3, none⟩) l := fun hl => by
  obtain ⟨b2, o2, e, hlt, hc⟩ := h (by simp)
  injection e with e
  injection e with e1 e2
  subst e1 e2
  refine ⟨b, o + 3, rfl, hlt, fun i x hx => ?_⟩
  have := hc (i + 1) x (by simpa using hx)
  rw [show o + 3 + i * 3 = o + (i + 1) * 3 by omega]
  exact this
theorem ent_cells {w : World} {g : Nat} {a0 a1 a2 : Value} (h : Blk w g 49 #[a0, a1, a2]) : (w.cell? ⟨g, 0, none⟩ = some a0 ∧ w.cell? ⟨g, 1, none⟩ = some a1 ∧ w.cell? ⟨g, 2, none⟩ = some a2) ∧ w.frozen? ⟨g, 0, none⟩ = false ∧ w.frozen? ⟨g, 1, none⟩ = false ∧ w.frozen? ⟨g, 2, none⟩ = false := ⟨⟨h.cell 0, h.cell 1, h.cell 2⟩, h.free 0, h.free 1, h.free 2⟩
theorem own_3e {w0 w : World} {O0 : Nat → Prop} {A : Asn} {g : Nat} {T : TypeId} {a0 a1 a2 : Value} (h : Own w0 O0 w (Asn.blk g T #[a0, a1, a2] * A)) (b0 b1 b2 : Value) :
    Own w0 O0 (((w.setCell ⟨g, 0, none⟩ b0).setCell ⟨g, 1, none⟩ b1).setCell ⟨g, 2, none⟩ b2) (Asn.blk g T #[b0, b1, b2] * A) := by
  have h1 := h.set (Sets.l (sets_blk g T #[a0, a1, a2] 0 b0))
  have h2 := h1.set (Sets.l (sets_blk g T _ 1 b1))
  have h3 := h2.set (Sets.l (sets_blk g T _ 2 b2))
  exact h3
theorem resEE {fn : Func} {x y : Nat} {tm : Array Value} {w : World} {g : Nat} {a0 a1 a2 v : Value} (hf : fn.results = #[.cell x 49, .tmp y]) (hx : tm[x]?.getD undef = .pointer (some ⟨g, 0, none⟩)) (hy : tm[y]?.getD undef = v)
    (hB : Blk w g 49 #[a0, a1, a2]) : (results fn tm).run Try.prog w = .ok (.tuple #[.agg #[a0, a1, a2], v]) w := by
  obtain ⟨⟨c0, c1, c2⟩, -⟩ := ent_cells hB
  clear hB
  unfold results
  rw [hf]
  simp [go_sem, hx, hy, c0, c1, c2]
/-- What Entry answers. -/
def entV (fit : Bool) (row : List Sg.V) : Value := match fit, row with
  | true, v :: rest => .tuple #[.agg #[.string (codeS v.1 v.2.1 v.2.2), .string ⟨(rowB rest).toArray⟩, .bool false], .int .i64 0]
  | _, _ => .tuple #[.agg #[.string ⟨#[]⟩, .string ⟨#[]⟩, .bool false], .int .i64 1]
set_option maxRecDepth 100000 in
set_option maxHeartbeats 4000000 in
theorem Entry_any (p : Value) (T : List (List Int)) (V : List Vw) (tb : Int) (A : Option Addr) (d : Nat) (row : List Sg.V) (w : World) (h : PlanAt w p T V) (hr : row.length ≤ 281474976710656) (hd : row.length ≤ d) (hv : ∀ v ∈ row, inV v) (hA : VReads w A row) :
    Calls Try.prog 15 #[p, .int .i64 tb, .slice A row.length d] w fun e w' => e = .returned (entV (fitsB T V tb row) row) ∧ Below w.heap.size w w' := by
  have HF := Lib.hid (fun w h hA => Fits_any p T V tb A d row w h hr (fun v hm => (hv v hm).2.2) hA)
  have HP := Lib.hid h
  have HA := Lib.hid hA
  obtain ⟨P1, c, P2, c2, rfl, -, -, -, -, -, -⟩ := h
  clear hA
  cases hfit : fitsB T V tb row with
  | false =>
    rw [hfit] at HF
    have he : entV false row = .tuple #[.agg #[.string ⟨#[]⟩, .string ⟨#[]⟩, .bool false], .int .i64 1] := by unfold entV; rfl
    rw [he]
    clear he
    go_enter Try.func15, Try.ntmps15
    go_upto_region 1 with fail
    have S0 := Lib.hid (((Own.none w).alloc #[.slice P1 T.length c, .slice P2 V.length c2] 47).alloc #[.string ⟨#[]⟩, .string ⟨#[]⟩, .bool false] 49)
    obtain ⟨g, hg⟩ : ∃ g, g = w.heap.size := ⟨_, rfl⟩
    obtain ⟨ge, hge⟩ : ∃ g, g = (w.alloc (.cells #[.slice P1 T.length c, .slice P2 V.length c2] 47)).heap.size := ⟨_, rfl⟩
    rw [← hge, ← hg] at S0
    have hge1 : ge = w.heap.size + 1 := by rw [hge]; simp
    try rw [← hge1]
    try rw [← hg]
    clear hg hge hge1
    generalize World.alloc (World.alloc w _) _ = w1 at *
    have c0 := (S0.out.has (Has.r (Has.l (has_blk g _ _)))).cell 0
    have c1 := (S0.out.has (Has.r (Has.l (has_blk g _ _)))).cell 1
    simp only [List.getElem?_toArray, List.getElem?_cons_zero, List.getElem?_cons_succ] at c0 c1
    have HF1 := Lib.hid (HF.out w1 (HP.out.keep S0.out.bel) (HA.out.keep S0.out.bel))
    as_aux_lemma =>
      go_wp2_with fail
      refine HF1.out.mono ?_
      rintro e w2 ⟨rfl, hX⟩
      have S1 := Lib.hid (S0.out.below hX)
      clear hX S0 c0 c1 HF HF1
      obtain ⟨⟨e0, e1, e2⟩, f0, f1, f2⟩ := ent_cells (S1.out.has (Has.l (has_blk ge _ _)))
      have hfe : fitE false = 1 := rfl
      go_wp2_with fail
      have S2 := Lib.hid (own_3e S1.out (.string ⟨#[]⟩) (.string ⟨#[]⟩) (.bool false))
      clear e0 e1 e2 f0 f1 f2 S1
      generalize World.setCell (World.setCell (World.setCell w2 _ _) _ _) _ _ = w3 at *
      exact bodyPost_ret (resEE rfl rfl rfl (S2.out.has (Has.l (has_blk ge _ _)))) rfl ⟨rfl, S2.out.bel⟩
  | true =>
    rw [hfit] at HF
    obtain ⟨v, rest, rfl, hl3, hgv, hgr⟩ := fits_facts hfit
    have hiv := hv v (List.mem_cons_self ..)
    have hir : ∀ x ∈ rest, inV x := fun x hx => hv x (List.mem_cons_of_mem _ hx)
    obtain ⟨b, o, rfl, -, -⟩ := vreads_at HA.out (j := 0) (x := v) rfl
    have HC := Lib.hid (fun w => Sg.Code_yes v.1 v.2.1 v.2.2 w hiv.2.2 hiv.1 hiv.2.1 hgv)
    have HR := Lib.hid (fun o2 d2 w (hw : VReads w (some ⟨b, o2, none⟩) rest) => Sg.Row_any (some ⟨b, o2, none⟩) d2 rest w (by unfold maxLen; omega) hir hw)
    have hro : rowV (rowO rest) = .tuple #[.string ⟨(rowB rest).toArray⟩, .int .i64 0] := by unfold rowO; rw [if_pos ⟨by omega, List.all_eq_true.2 hgr⟩]; rfl
    rw [hro] at HR
    have he : entV true (v :: rest) = .tuple #[.agg #[.string (codeS v.1 v.2.1 v.2.2), .string ⟨(rowB rest).toArray⟩, .bool false], .int .i64 0] := rfl
    rw [he]
    have HV := Lib.hid (fun (W : World) (hW : Below w.heap.size w W) => (show VAt W b o v from by
      obtain ⟨b2, o2, e, -, h⟩ := vreads_at (HA.out.keep hW) (j := 0) (x := v) rfl
      injection e with e
      injection e with e1 e2
      subst e1 e2
      simpa using h))
    generalize codeS v.1 v.2.1 v.2.2 = kv, (⟨(rowB rest).toArray⟩ : ByteArray) = vv at *
    clear he hro hfit hgv hgr hiv hir hv
    obtain ⟨va, vb, vs⟩ := v
    dsimp only at HC HV
    rw [List.length_cons] at *
    go_enter Try.func15, Try.ntmps15
    go_upto_region 1 with fail
    have S0 := Lib.hid (((Own.none w).alloc #[.slice P1 T.length c, .slice P2 V.length c2] 47).alloc #[.string ⟨#[]⟩, .string ⟨#[]⟩, .bool false] 49)
    obtain ⟨g, hg⟩ : ∃ g, g = w.heap.size := ⟨_, rfl⟩
    obtain ⟨ge, hge⟩ : ∃ g, g = (w.alloc (.cells #[.slice P1 T.length c, .slice P2 V.length c2] 47)).heap.size := ⟨_, rfl⟩
    rw [← hge, ← hg] at S0
    have hge1 : ge = w.heap.size + 1 := by rw [hge]; simp
    try rw [← hge1]
    try rw [← hg]
    clear hg hge hge1
    generalize World.alloc (World.alloc w _) _ = w1 at *
    have c0 := (S0.out.has (Has.r (Has.l (has_blk g _ _)))).cell 0
    have c1 := (S0.out.has (Has.r (Has.l (has_blk g _ _)))).cell 1
    simp only [List.getElem?_toArray, List.getElem?_cons_zero, List.getElem?_cons_succ] at c0 c1
    have HF1 := Lib.hid (HF.out w1 (HP.out.keep S0.out.bel) (HA.out.keep S0.out.bel))
    have hdI : ((rest.length + 1 : Nat) : Int) ≤ (d : Int) := by omega
    as_aux_lemma =>
      go_wp2_with fail
      refine HF1.out.mono ?_
      rintro e w2 ⟨rfl, hX⟩
      have S1 := Lib.hid (S0.out.below hX)
      clear hX S0 c0 c1 HF HF1
      have hfe : fitE true = 0 := rfl
      obtain ⟨v0, v1, v2⟩ := HV.out _ S1.out.bel
      go_wp2_with fail
      refine (HC.out _).mono ?_
      rintro e w3 ⟨rfl, hX⟩
      have S2 := Lib.hid (S1.out.below hX)
      clear hX S1 HC v0 v1 v2
      have hV3 := vreads_tail (HA.out.keep S2.out.bel)
      have hV4 : rest.length + 1 ≤ 1 → VReads w3 (some ⟨b, o, none⟩) rest := fun h => by
        have e : rest = [] := List.eq_nil_of_length_eq_zero (by omega)
        subst e
        exact fun h => absurd rfl h
      have HV3 := Lib.hid hV3
      have HV4 := Lib.hid hV4
      clear hV3 hV4 HV
      go_wp2_with fail
      case inl =>
        refine (HR.out _ _ _ (HV4.out (by omega))).mono ?_
        rintro e w4 ⟨rfl, hX⟩
        have S3 := Lib.hid (S2.out.below hX)
        clear hX S2 HR HV3 HV4
        obtain ⟨⟨e0, e1, e2⟩, f0, f1, f2⟩ := ent_cells (S3.out.has (Has.l (has_blk ge _ _)))
        go_wp2_with fail
        have S4 := Lib.hid (own_3e S3.out (.string kv) (.string vv) (.bool false))
        clear e0 e1 e2 f0 f1 f2 S3
        generalize World.setCell (World.setCell (World.setCell w4 _ _) _ _) _ _ = w5 at *
        exact bodyPost_ret (resEE rfl rfl rfl (S4.out.has (Has.l (has_blk ge _ _)))) rfl ⟨rfl, S4.out.bel⟩
      case inr =>
        refine (HR.out _ _ _ HV3.out).mono ?_
        rintro e w4 ⟨rfl, hX⟩
        have S3 := Lib.hid (S2.out.below hX)
        clear hX S2 HR HV3 HV4
        obtain ⟨⟨e0, e1, e2⟩, f0, f1, f2⟩ := ent_cells (S3.out.has (Has.l (has_blk ge _ _)))
        go_wp2_with fail
        have S4 := Lib.hid (own_3e S3.out (.string kv) (.string vv) (.bool false))
        clear e0 e1 e2 f0 f1 f2 S3
        generalize World.setCell (World.setCell (World.setCell w4 _ _) _ _) _ _ = w5 at *
        exact bodyPost_ret (resEE rfl rfl rfl (S4.out.has (Has.l (has_blk ge _ _)))) rfl ⟨rfl, S4.out.bel⟩
theorem Trees_any (p : Value) (T : List (List Int)) (V : List Vw) (w : World) (h : PlanAt w p T V) :
    Calls Try.prog 17 #[p] w fun e w' => e = .returned (.int .i64 ((T.length : Int) + V.length)) ∧ Below w.heap.size w w' := by
  obtain ⟨P1, c, P2, c2, rfl, -, -, h1, h2, -, -⟩ := h
  have hw : IntKind.i64.wrap ((T.length : Int) + V.length) = (T.length : Int) + V.length := by rw [i64_is, IntWalk.wrap64_in _ ⟨by omega, by omega⟩]
  go_enter Try.func17, Try.ntmps17
  go_wp2_with fail
  go_returns
  exact ⟨rfl, blA (Below.refl _ _) _⟩
theorem View_any (p : Value) (T : List (List Int)) (V : List Vw) (n : Nat) (hn : n ≤ 1000) (w : World) (h : PlanAt w p T V) :
    Calls Try.prog 18 #[p, .int .i64 n] w fun e w' => e = .returned (.int .i64 ((T.length : Int) + n)) ∧ Below w.heap.size w w' := by
  obtain ⟨P1, c, P2, c2, rfl, -, -, h1, h2, -, -⟩ := h
  have hw : IntKind.i64.wrap ((T.length : Int) + n) = (T.length : Int) + n := by rw [i64_is, IntWalk.wrap64_in _ ⟨by omega, by omega⟩]
  go_enter Try.func18, Try.ntmps18
  go_wp2_with fail
  go_returns
  exact ⟨rfl, blA (Below.refl _ _) _⟩
theorem Root_any (n : Nat) (hn : n ≤ 1125899906842624) (w : World) :
    Calls Try.prog 20 #[.int .i64 n] w fun e w' => e = .returned (.int .i64 ((n : Int) + 1)) ∧ w' = w := by
  have hw : IntKind.i64.wrap ((n : Int) + 1) = (n : Int) + 1 := by rw [i64_is, IntWalk.wrap64_in _ ⟨by omega, by omega⟩]
  go_enter Try.func20, Try.ntmps20
  go_wp2_with fail
  go_returns
  exact ⟨rfl, rfl⟩
theorem Free_any (p : Value) (T : List (List Int)) (V : List Vw) (w : World) (h : PlanAt w p T V) :
    Calls Try.prog 19 #[p] w fun e w' => e = .returned (.int .i64 ((T.length : Int) + V.length + 1)) ∧ Below w.heap.size w w' := by
  have HT := Lib.hid (fun w h => Trees_any p T V w h)
  have HP := Lib.hid h
  obtain ⟨P1, c, P2, c2, rfl, -, -, h1, h2, -, -⟩ := h
  have HR := Lib.hid (fun w => Root_any (T.length + V.length) (by omega) w)
  rw [show ((T.length + V.length : Nat) : Int) = (T.length : Int) + V.length by omega] at HR
  go_enter Try.func19, Try.ntmps19
  go_upto_region 1 with fail
  have S0 := Lib.hid ((Own.none w).alloc #[.slice P1 T.length c, .slice P2 V.length c2] 47)
  obtain ⟨g, hgz⟩ : ∃ g, g = w.heap.size := ⟨_, rfl⟩
  rw [← hgz] at S0 ⊢
  clear hgz
  generalize World.alloc w _ = w1 at *
  have c0 := (S0.out.has (Has.l (has_blk g _ _))).cell 0
  have c1 := (S0.out.has (Has.l (has_blk g _ _))).cell 1
  simp only [List.getElem?_toArray, List.getElem?_cons_zero, List.getElem?_cons_succ] at c0 c1
  go_wp2_with fail
  refine (HT.out _ (HP.out.keep S0.out.bel)).mono ?_
  rintro e w2 ⟨rfl, hX⟩
  have S1 := Lib.hid (S0.out.below hX)
  clear hX S0 c0 c1
  go_wp2_with fail
  refine (HR.out _).mono ?_
  rintro e w3 ⟨rfl, rfl⟩
  go_wp2_with fail
  go_returns
  exact ⟨rfl, S1.out.bel⟩
end Go.Proofs.Ytoofoalpffoheaa.Pn
