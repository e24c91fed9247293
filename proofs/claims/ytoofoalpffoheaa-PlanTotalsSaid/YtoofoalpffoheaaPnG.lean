/- Plans: rows that fit, their entries. -/
import Derived.Test.YtoofoalpffoheaaPnF
import Derived.Test.YtoofoalpffoheaaSgR
import Derived.Test.YtoofoalpffoheaaSgZ
import Derived.Deep.RegionHeld3
namespace Go.Proofs.Ytoofoalpffoheaa.Pn
open Go.ChangeShapes Go.WideShapes Go.ChangeAt Go.RowKit Go.PlainAid Aid
open Sg (V goodV inV VReads VAt goodB codeS rowB codeB)
set_option linter.unusedVariables false
set_option linter.unusedSimpArgs false
def v0 : V := (0, 0, ⟨#[]⟩)
def fitAt (t : List Int) (row : List V) (i : Nat) : Bool := decide ((row.getD i v0).1 = t.getD i 0) && goodV (row.getD i v0)
def fillsB (t : List Int) (row : List V) : Bool := decide (row.length = t.length) && (List.range row.length).all (fitAt t row)
theorem getD_ofV {l : List V} {k : Nat} {x d : V} (h : l[k]? = some x) : l.getD k d = x := by rw [List.getD, h]; rfl
theorem vreads_at {W : World} {A : Option Addr} {l : List V} (h : VReads W A l) {j : Nat} {x : V} (hx : l[j]? = some x) : ∃ b o, A = some ⟨b, o, none⟩ ∧ b < W.heap.size ∧ VAt W b (o + j * 3) x := by
  obtain ⟨b, o, rfl, hl, hc⟩ := h (fun e => by rw [e] at hx; cases hx)
  exact ⟨b, o, rfl, hl, hc j x hx⟩
theorem val_cells {w : World} {g : Nat} {a0 a1 a2 : Value} (h : Blk w g 53 #[a0, a1, a2]) : w.cell? ⟨g, 0, none⟩ = some a0 ∧ w.cell? ⟨g, 1, none⟩ = some a1 ∧ w.cell? ⟨g, 2, none⟩ = some a2 := ⟨h.cell 0, h.cell 1, h.cell 2⟩
set_option maxRecDepth 100000 in
set_option maxHeartbeats 4000000 in
theorem fills_any (C A : Option Addr) (c d : Nat) (t : List Int) (row : List V) (w : World) (ht : t.length ≤ 281474976710656) (hr : row.length ≤ 281474976710656) (hv : ∀ v ∈ row, v.2.2.size ≤ maxLen) (hC : IntsAt w C t) (hA : VReads w A row) :
    Calls Try.prog 41 #[.agg #[.slice C t.length c], .slice A row.length d] w fun e w' => e = .returned (.bool (fillsB t row)) ∧ Below w.heap.size w w' := by
  have HC := Lib.hid hC
  have HA := Lib.hid hA
  clear hC hA
  by_cases hl : row.length = t.length
  · have HG := Lib.hid (show fillsB t row = (List.range row.length).all (fitAt t row) from by unfold fillsB; rw [decide_eq_true hl, Bool.true_and])
    rw [HG.out]
    clear HG
    have HL := Lib.hid hl
    rw [← hl]
    clear hl
    go_enter Try.func41, Try.ntmps41
    go_upto_region 1 with fail
    have S0 := Lib.hid ((Own.none w).alloc #[.slice C row.length c] 41)
    obtain ⟨g, hgz⟩ : ∃ g, g = w.heap.size := ⟨_, rfl⟩
    rw [← hgz] at S0 ⊢
    clear hgz
    generalize World.alloc w _ = w1 at *
    have c0 := (S0.out.has (Has.l (has_blk g _ _))).cell 0
    simp only [List.getElem?_toArray, List.getElem?_cons_zero, List.getElem?_cons_succ] at c0
    go_wp2_with fail
    clear c0
    go_loopw [15] (fun i wr => ∃ (k : Nat), k ≤ row.length ∧ i = .int .i64 k ∧ ((List.range k).all (fitAt t row)) = true ∧ Hid (Own w No wr (Asn.blk g 41 #[.slice C row.length c] * Asn.emp))) (fun i _ => row.length - (intOf i).toNat)
    case atStart => exact ⟨0, by omega, rfl, rfl, S0⟩
    case round =>
      clear S0
      obtain ⟨k, hk, rfl, hall, S0⟩ := hrel
      by_cases hlt : k < row.length
      · have hltI : (k : Int) < (row.length : Int) := by omega
        have hk0 : (0 : Int) ≤ (k : Int) := by omega
        obtain ⟨x, hx⟩ : ∃ x, row[k]? = some x := ⟨_, List.getElem?_eq_getElem hlt⟩
        obtain ⟨y, hy⟩ : ∃ y, t[k]? = some y := ⟨_, List.getElem?_eq_getElem (by have := HL.out; omega)⟩
        have hfa : fitAt t row k = (decide (x.1 = y) && goodV x) := by unfold fitAt; rw [getD_ofV hx, getD_of hy]
        have HF := Lib.hid (fun (h : fitAt t row k = false) => (show ((List.range row.length).all (fitAt t row)) = false from List.all_eq_false.2 ⟨k, List.mem_range.2 hlt, by rw [h]; decide⟩))
        have HT := Lib.hid (fun (h : fitAt t row k = true) => (show ((List.range (k + 1)).all (fitAt t row)) = true from by
          rw [List.range_succ, List.all_append, hall]
          simp only [List.all_cons, List.all_nil, h, Bool.and_true]))
        have hxs := hv x (List.mem_of_getElem? hx)
        obtain ⟨bx, ox, rfl, -, hc0, hc1, hc2⟩ := vreads_at (HA.out.keep S0.out.bel) hx
        go_upto_region 6 with fail
        have S1 := Lib.hid (S0.out.alloc #[.int .i64 x.1, .int .i64 x.2.1, .string x.2.2] 53)
        obtain ⟨gv, hgz⟩ : ∃ g, g = wr.heap.size := ⟨_, rfl⟩
        rw [← hgz] at S1 ⊢
        clear hgz hc0 hc1 hc2 S0
        generalize World.alloc wr _ = w5 at *
        obtain ⟨by_, oy, rfl, -, hcy⟩ := ints_at (HC.out.keep S1.out.bel) hy
        have HCY := Lib.hid (fun (W : World) (hW : Below w.heap.size w W) => (show W.cell? ⟨by_, oy + k, none⟩ = some (.int .i64 y) from by
          obtain ⟨b, o, e, -, h⟩ := ints_at (HC.out.keep hW) hy
          injection e with e
          injection e with e1 e2
          subst e1 e2
          exact h))
        obtain ⟨a, b, s⟩ := x
        dsimp only at hfa S1 hxs
        have HFA := Lib.hid hfa
        clear hfa hall hcy hx hy HA HC
        obtain ⟨d0, d1, d2⟩ := val_cells (S1.out.has (Has.l (has_blk gv _ _)))
        have c0 := (S1.out.has (Has.r (Has.l (has_blk g _ _)))).cell 0
        simp only [List.getElem?_toArray, List.getElem?_cons_zero, List.getElem?_cons_succ] at c0
        have hcy := HCY.out _ S1.out.bel
        by_cases hay : a = y
        · subst hay
          have HGo := Lib.hid (fun w => Sg.Good_any a b s w hxs)
          have S2 := Lib.hid S1.out.drew
          clear S1
          as_aux_lemma =>
            go_region_held3 (fun W => W.cell? ⟨gv, 0, none⟩ = some (.int .i64 a) ∧ W.cell? ⟨gv, 1, none⟩ = some (.int .i64 b) ∧ W.cell? ⟨gv, 2, none⟩ = some (.string s) ∧ W.cell? ⟨g, 0, none⟩ = some (.slice (some ⟨by_, oy, none⟩) row.length c) ∧ W.cell? ⟨by_, oy + k, none⟩ = some (.int .i64 a) ∧ Hid (Own w No W (Asn.blk gv 53 #[.int .i64 a, .int .i64 b, .string s] * (Asn.blk g 41 #[.slice (some ⟨by_, oy, none⟩) row.length c] * Asn.emp)))) (first | exact ⟨d0, d1, d2, c0, hcy, S2⟩ | exact ⟨t6.1, t6.2.1, t6.2.2, t7, t8, S6⟩) (first | (go_at_call 42; refine (HGo.out _).mono ?_; rintro e w6 ⟨rfl, hb⟩; have S6 : Hid (Own w No w6 (Asn.blk gv 53 #[.int .i64 a, .int .i64 b, .string s] * (Asn.blk g 41 #[.slice (some ⟨by_, oy, none⟩) row.length c] * Asn.emp))) := Lib.hid (Own.below (Hid.out (by assumption)) hb); have t6 := val_cells (S6.out.has (Has.l (has_blk gv _ _))); have t7 : w6.cell? ⟨g, 0, none⟩ = some (.slice (some ⟨by_, oy, none⟩) row.length c) := (S6.out.has (Has.r (Has.l (has_blk g _ _)))).cell 0; have t8 := HCY.out _ S6.out.bel))
            have S7 := Lib.hid S6.out.right
            cases hgo : goodB a b s with
            | true =>
              have hT := HT.out (by rw [HFA.out]; simp [goodV, hgo])
              clear HF HT HFA
              go_wp2_with fail
              go_roundw
              case rel => exact ⟨k + 1, by omega, by go_num, hT, S7⟩
              case measure => simp only [intOf]; omega
            | false =>
              have hT := HF.out (by rw [HFA.out]; simp [goodV, hgo])
              clear HF HT HFA
              go_wp2_with fail
              go_returns
              exact ⟨ret_bool hT.symm, S7.out.bel⟩
        · have hne : (a != y) = true := bne_iff_ne.2 hay
          have hT := HF.out (by rw [HFA.out, decide_eq_false hay]; rfl)
          clear HF HT HFA
          as_aux_lemma =>
            go_wp2_with fail
            go_quiet (fail)
            have S7 := Lib.hid (S1.out.drewN nq).right
            go_wp2_with fail
            go_returns
            exact ⟨ret_bool hT.symm, S7.out.bel⟩
      · obtain rfl : k = row.length := by omega
        go_wp2_with fail
        go_returns
        exact ⟨ret_bool hall.symm, S0.out.bel⟩
  · have HG := Lib.hid (show fillsB t row = false from by unfold fillsB; rw [decide_eq_false hl]; rfl)
    rw [HG.out]
    clear HG
    have hne : ((row.length : Int) != (t.length : Int)) = true := bne_iff_ne.2 (by omega)
    go_enter Try.func41, Try.ntmps41
    go_wp2_with fail
    go_returns
    exact ⟨rfl, blA (Below.refl _ _) _⟩
end Go.Proofs.Ytoofoalpffoheaa.Pn
