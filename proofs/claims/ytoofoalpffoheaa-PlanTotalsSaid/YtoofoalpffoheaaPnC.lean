/- Totals: IsNothing, Add. -/
import Derived.Test.YtoofoalpffoheaaPnB
import Derived.Deep.RegionHeld3
namespace Go.Proofs.Ytoofoalpffoheaa.Pn
open Go.ChangeShapes Go.WideShapes Go.ChangeAt Go.RowKit Go.PlainAid Aid Wd
set_option linter.unusedVariables false
set_option linter.unusedSimpArgs false
def nothB (c : W1) (l : List W1) : Bool := decide (c = 0) && l.all (fun x => decide (x = 0))
set_option maxHeartbeats 1000000 in
theorem IsNothing_any (v : Value) (c : W1) (l : List W1) (w : World) (hl : l.length ≤ 1000) (h : IsTot w v c l) :
    Calls Try.prog 11 #[v] w fun e w' => e = .returned (.bool (nothB c l)) ∧ Below w.heap.size w w' := by
  obtain ⟨A, cap, rfl, hr⟩ := h
  have HR := Lib.hid hr
  have HO := Lib.hid (fun w => Of_any 0 (by decide) w)
  unfold Wv at HO
  rw [show BitVec.ofInt 128 0 = 0 from rfl, hi0, lo0] at HO
  clear hr
  unfold totV
  go_enter Try.func11, Try.ntmps11
  go_upto_region 1 with fail
  have S0 := Lib.hid ((Own.none w).alloc #[.int .i64 (hi c), .int .u64 (lo c), .slice A l.length cap] 27)
  obtain ⟨gt, hgz⟩ : ∃ g, g = w.heap.size := ⟨_, rfl⟩
  rw [← hgz] at S0 ⊢
  clear hgz
  generalize World.alloc w _ = w1 at *
  obtain ⟨c0, c1, c2⟩ := tot_cells (S0.out.has (Has.l (has_blk gt _ _)))
  go_wp2_with fail
  clear c0 c1 c2
  go_loopw [8] (fun i wr => ∃ (k : Nat), k ≤ l.length ∧ i = .int .i64 k ∧ ((l.take k).all fun x => decide (x = 0)) = true ∧ Hid (Own w No wr (Asn.blk gt 27 #[.int .i64 (hi c), .int .u64 (lo c), .slice A l.length cap] * Asn.emp))) (fun i _ => l.length - (intOf i).toNat)
  case atStart => exact ⟨0, by omega, rfl, rfl, S0⟩
  case round =>
    clear S0
    obtain ⟨k, hk, rfl, hall, S3⟩ := hrel
    by_cases hlt : k < l.length
    · have hltI : (k : Int) < (l.length : Int) := by omega
      obtain ⟨x, hx⟩ : ∃ x, l[k]? = some x := ⟨_, List.getElem?_eq_getElem hlt⟩
      obtain ⟨b, off, rfl, hbl, hc0, hc1⟩ := (HR.out.keep S3.out.bel).at hx
      have htk : l.take (k + 1) = l.take k ++ [x] := by rw [List.take_add_one, hx]; rfl
      go_upto_region 4 with fail
      have S4 := Lib.hid ((S3.out.alloc #[.int .i64 (hi x), .int .u64 (lo x)] 24))
      obtain ⟨gx, hgz⟩ : ∃ g, g = wr.heap.size := ⟨_, rfl⟩
      rw [← hgz] at S4 ⊢
      clear hgz hc0 hc1 hbl
      generalize World.alloc wr _ = w5 at *
      obtain ⟨⟨d0, d1⟩, -, -⟩ := two_of (S4.out.has (Has.l (has_blk gx _ _)))
      have S5 := Lib.hid S4.out.drew
      clear S3 S4
      by_cases h1 : hi x = 0
      · by_cases h2 : lo x = 0
        · have hv : decide (x = 0) = true := decide_eq_true (same (by rw [h1, hi0]) (by rw [h2, lo0]))
          generalize hi x = ah, lo x = al at *
          subst h1 h2
          as_aux_lemma =>
            go_region_held3 (fun W => W.cell? ⟨gx, 0, none⟩ = some (.int .i64 0) ∧ W.cell? ⟨gx, 1, none⟩ = some (.int .u64 0) ∧ Hid (Own w No W (Asn.blk gx 24 #[.int .i64 0, .int .u64 0] * (Asn.blk gt 27 #[.int .i64 (hi c), .int .u64 (lo c), .slice (some ⟨b, off, none⟩) l.length cap] * Asn.emp)))) (first | exact ⟨d0, d1, S5⟩ | exact ⟨t6.1.1, t6.1.2, S6⟩) (first | (go_at_call 27; refine (HO.out _).mono ?_; rintro e w6 ⟨rfl, hb⟩; have S6 : Hid (Own w No w6 (Asn.blk gx 24 #[.int .i64 0, .int .u64 0] * (Asn.blk gt 27 #[.int .i64 (hi c), .int .u64 (lo c), .slice (some ⟨b, off, none⟩) l.length cap] * Asn.emp))) := Lib.hid (Own.below (Hid.out (by assumption)) hb); have t6 := two_of (S6.out.has (Has.l (has_blk gx _ _)))))
            go_wp2_with fail
            go_roundw
            case rel => exact ⟨k + 1, by omega, by go_num, by rw [htk, List.all_append, hall]; simp only [List.all_cons, List.all_nil, hv, Bool.and_true], Lib.hid S6.out.right⟩
            case measure => simp only [intOf]; omega
        · have hv : decide (x = 0) = false := decide_eq_false (fun e => h2 (by rw [e, lo0]))
          generalize hi x = ah, lo x = al at *
          subst h1
          have h3 : (al == 0) = false := beq_eq_false_iff_ne.2 h2
          as_aux_lemma =>
            go_region_held3 (fun W => W.cell? ⟨gx, 0, none⟩ = some (.int .i64 0) ∧ W.cell? ⟨gx, 1, none⟩ = some (.int .u64 al) ∧ Hid (Own w No W (Asn.blk gx 24 #[.int .i64 0, .int .u64 al] * (Asn.blk gt 27 #[.int .i64 (hi c), .int .u64 (lo c), .slice (some ⟨b, off, none⟩) l.length cap] * Asn.emp)))) (first | exact ⟨d0, d1, S5⟩ | exact ⟨t6.1.1, t6.1.2, S6⟩) (first | (go_at_call 27; refine (HO.out _).mono ?_; rintro e w6 ⟨rfl, hb⟩; have S6 : Hid (Own w No w6 (Asn.blk gx 24 #[.int .i64 0, .int .u64 al] * (Asn.blk gt 27 #[.int .i64 (hi c), .int .u64 (lo c), .slice (some ⟨b, off, none⟩) l.length cap] * Asn.emp))) := Lib.hid (Own.below (Hid.out (by assumption)) hb); have t6 := two_of (S6.out.has (Has.l (has_blk gx _ _)))))
            go_wp2_with fail
            go_returns
            refine ⟨by have e : nothB c l = false := (by unfold nothB; rw [show (l.all fun x => decide (x = 0)) = false from List.all_eq_false.2 ⟨x, List.mem_of_getElem? hx, by rw [hv]; decide⟩, Bool.and_false]); rw [e]; rfl, S6.out.bel⟩
      · have hv : decide (x = 0) = false := decide_eq_false (fun e => h1 (by rw [e, hi0]))
        generalize hi x = ah, lo x = al at *
        have h3 : (ah == 0) = false := beq_eq_false_iff_ne.2 h1
        as_aux_lemma =>
          go_region_held3 (fun W => W.cell? ⟨gx, 0, none⟩ = some (.int .i64 ah) ∧ W.cell? ⟨gx, 1, none⟩ = some (.int .u64 al) ∧ Hid (Own w No W (Asn.blk gx 24 #[.int .i64 ah, .int .u64 al] * (Asn.blk gt 27 #[.int .i64 (hi c), .int .u64 (lo c), .slice (some ⟨b, off, none⟩) l.length cap] * Asn.emp)))) (first | exact ⟨d0, d1, S5⟩ | exact ⟨t6.1.1, t6.1.2, S6⟩) (first | (go_at_call 27; refine (HO.out _).mono ?_; rintro e w6 ⟨rfl, hb⟩; have S6 : Hid (Own w No w6 (Asn.blk gx 24 #[.int .i64 ah, .int .u64 al] * (Asn.blk gt 27 #[.int .i64 (hi c), .int .u64 (lo c), .slice (some ⟨b, off, none⟩) l.length cap] * Asn.emp))) := Lib.hid (Own.below (Hid.out (by assumption)) hb); have t6 := two_of (S6.out.has (Has.l (has_blk gx _ _)))))
          go_wp2_with fail
          go_returns
          refine ⟨by have e : nothB c l = false := (by unfold nothB; rw [show (l.all fun x => decide (x = 0)) = false from List.all_eq_false.2 ⟨x, List.mem_of_getElem? hx, by rw [hv]; decide⟩, Bool.and_false]); rw [e]; rfl, S6.out.bel⟩
    · obtain rfl : k = l.length := by omega
      rw [List.take_length] at hall
      go_upto_region 7 with fail
      obtain ⟨c0, c1, c2⟩ := tot_cells (S3.out.has (Has.l (has_blk gt _ _)))
      have S5 := Lib.hid S3.out.drew
      clear S3
      by_cases h1 : hi c = 0
      · by_cases h2 : lo c = 0
        · have hv : decide (c = 0) = true := decide_eq_true (same (by rw [h1, hi0]) (by rw [h2, lo0]))
          generalize hi c = ah, lo c = al at *
          subst h1 h2
          as_aux_lemma =>
            go_region_held3 (fun W => W.cell? ⟨gt, 0, none⟩ = some (.int .i64 0) ∧ W.cell? ⟨gt, 1, none⟩ = some (.int .u64 0) ∧ Hid (Own w No W (Asn.blk gt 27 #[.int .i64 0, .int .u64 0, .slice A l.length cap] * Asn.emp))) (first | exact ⟨c0, c1, S5⟩ | exact ⟨t6.1, t6.2.1, S6⟩) (first | (go_at_call 27; refine (HO.out _).mono ?_; rintro e w6 ⟨rfl, hb⟩; have S6 : Hid (Own w No w6 (Asn.blk gt 27 #[.int .i64 0, .int .u64 0, .slice A l.length cap] * Asn.emp)) := Lib.hid (Own.below (Hid.out (by assumption)) hb); have t6 := tot_cells (S6.out.has (Has.l (has_blk gt _ _)))))
            go_wp2_with fail
            go_returns
            exact ⟨by unfold nothB; rw [hall, hv]; rfl, S6.out.bel⟩
        · have hv : decide (c = 0) = false := decide_eq_false (fun e => h2 (by rw [e, lo0]))
          generalize hi c = ah, lo c = al at *
          subst h1
          have h3 : (al == 0) = false := beq_eq_false_iff_ne.2 h2
          as_aux_lemma =>
            go_region_held3 (fun W => W.cell? ⟨gt, 0, none⟩ = some (.int .i64 0) ∧ W.cell? ⟨gt, 1, none⟩ = some (.int .u64 al) ∧ Hid (Own w No W (Asn.blk gt 27 #[.int .i64 0, .int .u64 al, .slice A l.length cap] * Asn.emp))) (first | exact ⟨c0, c1, S5⟩ | exact ⟨t6.1, t6.2.1, S6⟩) (first | (go_at_call 27; refine (HO.out _).mono ?_; rintro e w6 ⟨rfl, hb⟩; have S6 : Hid (Own w No w6 (Asn.blk gt 27 #[.int .i64 0, .int .u64 al, .slice A l.length cap] * Asn.emp)) := Lib.hid (Own.below (Hid.out (by assumption)) hb); have t6 := tot_cells (S6.out.has (Has.l (has_blk gt _ _)))))
            go_wp2_with fail
            go_returns
            exact ⟨by unfold nothB; rw [hall, hv]; rfl, S6.out.bel⟩
      · have hv : decide (c = 0) = false := decide_eq_false (fun e => h1 (by rw [e, hi0]))
        generalize hi c = ah, lo c = al at *
        have h3 : (ah == 0) = false := beq_eq_false_iff_ne.2 h1
        as_aux_lemma =>
          go_region_held3 (fun W => W.cell? ⟨gt, 0, none⟩ = some (.int .i64 ah) ∧ W.cell? ⟨gt, 1, none⟩ = some (.int .u64 al) ∧ Hid (Own w No W (Asn.blk gt 27 #[.int .i64 ah, .int .u64 al, .slice A l.length cap] * Asn.emp))) (first | exact ⟨c0, c1, S5⟩ | exact ⟨t6.1, t6.2.1, S6⟩) (first | (go_at_call 27; refine (HO.out _).mono ?_; rintro e w6 ⟨rfl, hb⟩; have S6 : Hid (Own w No w6 (Asn.blk gt 27 #[.int .i64 ah, .int .u64 al, .slice A l.length cap] * Asn.emp)) := Lib.hid (Own.below (Hid.out (by assumption)) hb); have t6 := tot_cells (S6.out.has (Has.l (has_blk gt _ _)))))
          go_wp2_with fail
          go_returns
          exact ⟨by unfold nothB; rw [hall, hv]; rfl, S6.out.bel⟩
end Go.Proofs.Ytoofoalpffoheaa.Pn
