/- Plans: whether a row fits, its entry; trees and pages. -/
import Derived.Test.YtoofoalpffoheaaPnG
namespace Go.Proofs.Ytoofoalpffoheaa.Pn
open Go.ChangeShapes Go.WideShapes Go.ChangeAt Go.RowKit Go.PlainAid Aid
open Sg (V goodV inV VReads VAt goodB codeS rowB codeB rowO rowV)
set_option linter.unusedVariables false
set_option linter.unusedSimpArgs false
def fitsB (T : List (List Int)) (V : List Vw) (tb : Int) (row : List Sg.V) : Bool := goodP T V && (hasB tb T.length && fillsB (T.getD tb.toNat []) row)
theorem fillsB_iff {t : List Int} {row : List Sg.V} : fillsB t row = true ↔ row.length = t.length ∧ ∀ (i : Nat) (v : Sg.V), row[i]? = some v → t[i]? = some v.1 ∧ goodV v = true := by
  unfold fillsB
  rw [Bool.and_eq_true, decide_eq_true_iff, List.all_eq_true]
  constructor
  · rintro ⟨h1, h2⟩
    refine ⟨h1, fun i v hv => ?_⟩
    have hi : i < row.length := (List.getElem?_eq_some_iff.1 hv).1
    have := h2 i (List.mem_range.2 hi)
    unfold fitAt at this
    rw [getD_ofV hv, Bool.and_eq_true, decide_eq_true_iff] at this
    refine ⟨?_, this.2⟩
    have ht : t[i]? = some t[i] := List.getElem?_eq_getElem (by omega)
    rw [getD_of ht] at this
    rw [ht, this.1]
  · rintro ⟨h1, h2⟩
    refine ⟨h1, fun i hi => ?_⟩
    have hi := List.mem_range.1 hi
    have hv : row[i]? = some row[i] := List.getElem?_eq_getElem hi
    obtain ⟨h3, h4⟩ := h2 i _ hv
    unfold fitAt
    rw [getD_ofV hv, getD_of h3, decide_eq_true rfl, h4]
    rfl
theorem fits_facts {T : List (List Int)} {V : List Vw} {tb : Int} {row : List Sg.V} (h : fitsB T V tb row = true) : ∃ v rest, row = v :: rest ∧ rest.length ≤ 3 ∧ goodV v = true ∧ ∀ x ∈ rest, goodV x = true := by
  unfold fitsB at h
  rw [Bool.and_eq_true, Bool.and_eq_true] at h
  obtain ⟨hg, hh, hf⟩ := h
  have hh2 : 0 ≤ tb ∧ tb < T.length := of_decide_eq_true hh
  obtain ⟨t, ht⟩ : ∃ t, T[tb.toNat]? = some t := ⟨_, List.getElem?_eq_getElem (by omega)⟩
  rw [getD_ofT ht, fillsB_iff] at hf
  unfold goodP at hg
  rw [Bool.and_eq_true, Bool.and_eq_true, List.all_eq_true] at hg
  have hgt := hg.2.1 t (List.mem_of_getElem? ht)
  unfold goodT at hgt
  rw [Bool.and_eq_true, decide_eq_true_iff] at hgt
  obtain ⟨⟨h1, h4⟩, -⟩ := hgt
  obtain ⟨hl, hv⟩ := hf
  cases row with
  | nil => simp at hl; omega
  | cons v rest =>
    rw [List.length_cons] at hl
    refine ⟨v, rest, rfl, by omega, (hv 0 v rfl).2, fun x hx => ?_⟩
    obtain ⟨i, hi, he⟩ := List.mem_iff_getElem.1 hx
    exact (hv (i + 1) x (by rw [List.getElem?_cons_succ, List.getElem?_eq_getElem hi, he])).2
def fitE (b : Bool) : Int := cond b 0 1
theorem PlanAt.keep {W W' : World} {p : Value} {T : List (List Int)} {V : List Vw} (h : PlanAt W p T V) (hb : Below W.heap.size W W') : PlanAt W' p T V := by
  obtain ⟨A, c, B, d, rfl, h1, h2, h3⟩ := h
  exact ⟨A, c, B, d, rfl, h1.keep hb, h2.keep hb, h3⟩
set_option maxRecDepth 100000 in
set_option maxHeartbeats 4000000 in
theorem Fits_any (p : Value) (T : List (List Int)) (V : List Vw) (tb : Int) (A : Option Addr) (d : Nat) (row : List Sg.V) (w : World) (h : PlanAt w p T V) (hr : row.length ≤ 281474976710656) (hv : ∀ v ∈ row, v.2.2.size ≤ maxLen) (hA : VReads w A row) :
    Calls Try.prog 29 #[p, .int .i64 tb, .slice A row.length d] w fun e w' => e = .returned (.int .i64 (fitE (fitsB T V tb row))) ∧ Below w.heap.size w w' := by
  have HG := Lib.hid (fun w => Good_any p T V w)
  have HP := Lib.hid h
  have HA := Lib.hid hA
  obtain ⟨P1, c, P2, c2, rfl, hT1, hV1, hT, hV, hTl, hVl⟩ := h
  have HT := Lib.hid hT1
  clear hA hT1 hV1
  have HH := Lib.hid (has_any tb T.length)
  obtain ⟨q, hq⟩ : ∃ q, fitsB T V tb row = q := ⟨_, rfl⟩
  rw [hq]
  unfold fitsB at hq
  have HQ := Lib.hid hq
  clear hq
  generalize hgp : goodP T V = gp at *
  clear hgp
  go_enter Try.func29, Try.ntmps29
  go_upto_region 1 with fail
  have S0 := Lib.hid ((Own.none w).alloc #[.slice P1 T.length c, .slice P2 V.length c2] 47)
  obtain ⟨g, hgz⟩ : ∃ g, g = w.heap.size := ⟨_, rfl⟩
  rw [← hgz] at S0 ⊢
  clear hgz
  generalize World.alloc w _ = w1 at *
  have c0 := (S0.out.has (Has.l (has_blk g _ _))).cell 0
  have c1 := (S0.out.has (Has.l (has_blk g _ _))).cell 1
  simp only [List.getElem?_toArray, List.getElem?_cons_zero, List.getElem?_cons_succ] at c0 c1
  have HG1 := Lib.hid (HG.out w1 (HP.out.keep S0.out.bel))
  go_wp2_with fail
  refine HG1.out.mono ?_
  rintro e w2 ⟨rfl, hX⟩
  have S1 := Lib.hid (S0.out.below hX)
  clear hX S0 c0 c1 HG HG1
  have c0 := (S1.out.has (Has.l (has_blk g _ _))).cell 0
  simp only [List.getElem?_toArray, List.getElem?_cons_zero, List.getElem?_cons_succ] at c0
  cases gp with
  | false =>
    obtain rfl : q = false := HQ.out.symm
    clear HQ
    go_wp2_with fail
    go_returns
    exact ⟨rfl, S1.out.bel⟩
  | true =>
    cases hh : hasB tb T.length with
    | false =>
      rw [hh] at HH HQ
      obtain rfl : q = false := HQ.out.symm
      clear HQ
      go_wp2_with fail
      refine (HH.out _).mono ?_
      rintro e w3 ⟨rfl, rfl⟩
      go_wp2_with fail
      go_returns
      exact ⟨rfl, S1.out.bel⟩
    | true =>
      rw [hh] at HH HQ
      have hh2 : 0 ≤ tb ∧ tb < T.length := of_decide_eq_true hh
      obtain ⟨ha0, hal⟩ := hh2
      obtain ⟨t, ht⟩ : ∃ t, T[tb.toNat]? = some t := ⟨_, List.getElem?_eq_getElem (by omega)⟩
      have htt : T.getD tb.toNat [] = t := getD_ofT ht
      rw [htt] at HQ
      have htl := hTl t (List.mem_of_getElem? ht)
      obtain ⟨ba, oa, D, e, rfl, -, hct, hD⟩ := tabs_at (HT.out.keep S1.out.bel) ht
      have HF := Lib.hid (fills_any D A e d t row w2 htl hr hv hD (HA.out.keep S1.out.bel))
      clear hD htt ht
      go_wp2_with fail
      refine (HH.out _).mono ?_
      rintro e w3 ⟨rfl, rfl⟩
      go_wp2_with fail
      refine (HF.out).mono ?_
      rintro e w4 ⟨rfl, hX⟩
      have S2 := Lib.hid (S1.out.below hX)
      clear hX S1 HF c0 hct
      cases hfb : fillsB t row with
      | true =>
        rw [hfb] at HQ
        obtain rfl : q = true := HQ.out.symm
        clear HQ
        go_wp2_with fail
        go_returns
        exact ⟨rfl, S2.out.bel⟩
      | false =>
        rw [hfb] at HQ
        obtain rfl : q = false := HQ.out.symm
        clear HQ
        go_wp2_with fail
        go_returns
        exact ⟨rfl, S2.out.bel⟩
end Go.Proofs.Ytoofoalpffoheaa.Pn
