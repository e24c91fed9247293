/- Totals: their bytes (Total). -/
import Derived.Test.YtoofoalpffoheaaPnA
namespace Go.Proofs.Ytoofoalpffoheaa.Pn
open Go.ChangeShapes Go.WideShapes Go.ChangeAt Go.RowKit Go.PlainAid Aid Wd
set_option linter.unusedVariables false
set_option linter.unusedSimpArgs false
def codeW (x : W1) : List UInt8 := (strOfNums (codeL (hi x) (lo x))).data.toList
def codesW (l : List W1) : List UInt8 := l.flatMap codeW
/-- A total's bytes. -/
def totB (c : W1) (l : List W1) : List UInt8 := codeW c ++ codesW l
theorem codeW_len (x : W1) : (codeW x).length = 16 := rfl
theorem codesW_snoc (l : List W1) (x : W1) : codesW (l ++ [x]) = codesW l ++ codeW x := by unfold codesW; rw [List.flatMap_append]; simp
theorem codesW_len (l : List W1) : (codesW l).length = 16 * l.length := by
  induction l with
  | nil => rfl
  | cons a l ih =>
    have e : codesW (a :: l) = codeW a ++ codesW l := rfl
    rw [e, List.length_append, ih, List.length_cons, codeW_len]
    omega
theorem bldZ {w0 w : World} {O0 : Nat → Prop} {A : Asn} {g : Nat} {T : TypeId} (h : Own w0 O0 w (Asn.blk g T #[.pointer none, .slice none 0 0] * A)) : Own w0 O0 w (aBld T g [] * A) := by
  have h3 : Own w0 O0 w ((aBlk T g (.pointer none) (.slice none 0 0) * Asn.vec 5 1 (.slice none 0 0) 0 []) * A) := (h.nilVec 5 1).assoc'.imp (Imp.l (fun _ _ => sep_comm))
  exact h3.imp (Imp.l (fun _ _ h => ⟨(false, .slice none 0 0), h⟩))
theorem bldS : BldT 62 := by unfold BldT; kernel_rfl
theorem WReads.at {W : World} {A : Option Addr} {l : List W1} (h : WReads W A l) {i : Nat} {x : W1} (hx : l[i]? = some x) : ∃ b off, A = some ⟨b, off, none⟩ ∧ b < W.heap.size ∧ WAt W b (off + i * 2) x := by
  obtain ⟨b, off, rfl, hlt, hc⟩ := h (fun e => by rw [e] at hx; cases hx)
  exact ⟨b, off, rfl, hlt, hc i x hx⟩
theorem Code_w (x : W1) (w : World) : Calls Try.prog 22 #[.agg #[.int .i64 (hi x), .int .u64 (lo x)]] w fun e w' => e = .returned (.string (ofL (codeW x))) ∧ Below w.heap.size w w' := Code_parts _ _ w
theorem tot_cells {w : World} {g : Nat} {a0 a1 a2 : Value} (h : Blk w g 27 #[a0, a1, a2]) : w.cell? ⟨g, 0, none⟩ = some a0 ∧ w.cell? ⟨g, 1, none⟩ = some a1 ∧ w.cell? ⟨g, 2, none⟩ = some a2 := ⟨h.cell 0, h.cell 1, h.cell 2⟩
set_option maxHeartbeats 1000000 in
theorem Total_any (v : Value) (c : W1) (l : List W1) (w : World) (hl : l.length ≤ 1000) (h : IsTot w v c l) :
    Calls Try.prog 6 #[v] w fun e w' => e = .returned (.string (ofL (totB c l))) ∧ Below w.heap.size w w' := by
  obtain ⟨A, cap, rfl, hr⟩ := h
  have HR := Lib.hid hr
  have HC := Lib.hid Code_w
  clear hr
  unfold totV
  go_enter Try.func6, Try.ntmps6
  go_upto_region 1 with fail
  have S0 := Lib.hid ((Own.none w).alloc #[.int .i64 (hi c), .int .u64 (lo c), .slice A l.length cap] 27)
  obtain ⟨gt, hgz⟩ : ∃ g, g = w.heap.size := ⟨_, rfl⟩
  rw [← hgz] at S0 ⊢
  clear hgz
  generalize World.alloc w _ = w1 at *
  go_upto_region 2 with fail
  have S1 := Lib.hid (bldZ (S0.out.alloc #[.pointer none, .slice none 0 0] 62))
  obtain ⟨gb, hgz⟩ : ∃ g, g = w1.heap.size := ⟨_, rfl⟩
  rw [← hgz] at S1 ⊢
  clear hgz S0
  generalize World.alloc w1 _ = w2 at *
  obtain ⟨c0, c1, c2⟩ := tot_cells (S1.out.has (Has.r (Has.l (has_blk gt _ _))))
  go_wp2_with fail
  refine (HC.out c _).mono ?_
  rintro e w3 ⟨rfl, hb⟩
  have S2 := Lib.hid (S1.out.below hb)
  clear S1 hb c0 c1 c2
  have hs := codeW_len c
  go_wp2_with fail
  refine (S2.out.call ((bWriteString 62 bldS gb [] (codeW c) (by rw [hs]; decide)).l)).mono ?_
  rintro e w4 ⟨rfl, hX⟩
  have S3 := Lib.hid (show Own w No w4 (aBld 62 gb (codeW c ++ codesW (l.take 0)) * _) from by
    rw [List.take_zero, show codesW [] = [] from rfl, List.append_nil]
    exact hX)
  clear hX S2
  obtain ⟨c0, c1, c2⟩ := tot_cells (S3.out.has (Has.r (Has.l (has_blk gt _ _))))
  go_wp2_with fail
  clear c0 c1 c2
  go_loopw [13] (fun i wr => ∃ (k : Nat), k ≤ l.length ∧ i = .int .i64 k ∧ Hid (Own w No wr (aBld 62 gb (codeW c ++ codesW (l.take k)) * (Asn.blk gt 27 #[.int .i64 (hi c), .int .u64 (lo c), .slice A l.length cap] * Asn.emp)))) (fun i _ => l.length - (intOf i).toNat)
  case atStart => exact ⟨0, by omega, rfl, S3⟩
  case round =>
    clear S3
    obtain ⟨k, hk, rfl, S3⟩ := hrel
    by_cases hlt : k < l.length
    · have hltI : (k : Int) < (l.length : Int) := by omega
      obtain ⟨x, hx⟩ : ∃ x, l[k]? = some x := ⟨_, List.getElem?_eq_getElem hlt⟩
      obtain ⟨b, off, rfl, hbl, hc0, hc1⟩ := (HR.out.keep S3.out.bel).at hx
      have hlx := codesW_len (l.take k)
      rw [List.length_take, Nat.min_eq_left hk] at hlx
      have htk : l.take (k + 1) = l.take k ++ [x] := by rw [List.take_add_one, hx]; rfl
      go_upto_region 6 with fail
      have S4 := Lib.hid ((S3.out.alloc #[.int .i64 (hi x), .int .u64 (lo x)] 24))
      obtain ⟨gx, hgz⟩ : ∃ g, g = wr.heap.size := ⟨_, rfl⟩
      rw [← hgz] at S4 ⊢
      clear hgz hc0 hc1 hbl
      generalize World.alloc wr _ = w5 at *
      obtain ⟨⟨d0, d1⟩, -, -⟩ := two_of (S4.out.has (Has.l (has_blk gx _ _)))
      have S5 := Lib.hid S4.out.right
      clear S3 S4
      go_wp2_with fail
      refine (HC.out x _).mono ?_
      rintro e w6 ⟨rfl, hb⟩
      have S6 := Lib.hid (S5.out.below hb)
      clear S5 hb d0 d1
      have hs2 := codeW_len x
      go_wp2_with fail
      refine (S6.out.call ((bWriteString 62 bldS gb _ (codeW x) (by rw [List.length_append, hs, hs2, hlx]; omega)).l)).mono ?_
      rintro e w7 ⟨rfl, hX⟩
      rw [List.append_assoc, ← codesW_snoc, ← htk] at hX
      have S7 := Lib.hid hX
      clear hX S6 hx htk
      go_wp2_with fail
      go_roundw
      case rel => exact ⟨k + 1, by omega, by go_num, S7⟩
      case measure => simp only [intOf]; omega
    · obtain rfl : k = l.length := by omega
      rw [List.take_length] at S3
      go_wp2_with fail
      refine (S3.out.call ((bString 62 gb _ (fun e => by have := congrArg List.length e; rw [List.length_append, hs] at this; simp at this)).l)).mono ?_
      rintro e w7 ⟨rfl, hX⟩
      have S7 := Lib.hid hX
      clear hX S3
      go_wp2_with fail
      go_returns
      exact ⟨rfl, S7.out.bel⟩
end Go.Proofs.Ytoofoalpffoheaa.Pn
