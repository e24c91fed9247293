/- Plans: which can be. -/
import Derived.Test.YtoofoalpffoheaaSep
import Derived.Test.YtoofoalpffoheaaInts
import Derived.Test.YtoofoalpffoheaaBld
import Derived.Test.YtoofoalpffoheaaSgB
import Derived.Test.YtoofoalpffoheaaLaw
import Derived.Test.YtoofoalpffoheaaAc
import Derived.Deep.CutBlock
import Derived.Deep.DeepCutAuto
namespace Go.Proofs.Ytoofoalpffoheaa.Pn
open Go.ChangeShapes Go.WideShapes Go.ChangeAt Go.RowKit Go.PlainAid Aid
set_option linter.unusedVariables false
set_option linter.unusedSimpArgs false
abbrev Vw := Int × Int × List Int
def hasB (a : Int) (n : Nat) : Bool := decide (0 ≤ a ∧ a < n)
def goodT (t : List Int) : Bool := decide (1 ≤ t.length ∧ t.length ≤ 4) && t.all fun k => decide (k = 1 ∨ k = 2)
def okAt (t s : List Int) (j : Nat) : Bool := (decide (j = 0) || decide (s.getD (j - 1) 0 < s.getD j 0)) && hasB (s.getD j 0) t.length && decide (t.getD (s.getD j 0).toNat 0 = 1)
def goodS (t s : List Int) : Bool := decide (s.length ≤ 2) && (List.range s.length).all (okAt t s)
def goodW (T : List (List Int)) (v : Vw) : Bool := hasB v.1 T.length && (hasB v.2.1 (T.getD v.1.toNat []).length && goodS (T.getD v.1.toNat []) v.2.2)
def goodP (T : List (List Int)) (V : List Vw) : Bool := decide (1 ≤ T.length ∧ T.length ≤ 3 ∧ V.length ≤ 4) && (T.all goodT && V.all (goodW T))
def TabsAt (W : World) (A : Option Addr) (T : List (List Int)) : Prop := T = [] ∨ ∃ b o, A = some ⟨b, o, none⟩ ∧ b < W.heap.size ∧ ∀ j t, T[j]? = some t → ∃ C c, W.cell? ⟨b, o + j, none⟩ = some (.slice C t.length c) ∧ IntsAt W C t
def VwsAt (W : World) (A : Option Addr) (V : List Vw) : Prop := V = [] ∨ ∃ b o, A = some ⟨b, o, none⟩ ∧ b < W.heap.size ∧ ∀ j v, V[j]? = some v → W.cell? ⟨b, o + j * 3, none⟩ = some (.int .i64 v.1) ∧ W.cell? ⟨b, o + j * 3 + 1, none⟩ = some (.int .i64 v.2.1) ∧ ∃ C c, W.cell? ⟨b, o + j * 3 + 2, none⟩ = some (.slice C v.2.2.length c) ∧ IntsAt W C v.2.2
theorem TabsAt.keep {W W' : World} {A : Option Addr} {T : List (List Int)} (h : TabsAt W A T) (hb : Below W.heap.size W W') : TabsAt W' A T := by
  rcases h with h | ⟨b, o, rfl, hl, hc⟩
  · exact Or.inl h
  · refine Or.inr ⟨b, o, rfl, Nat.lt_of_lt_of_le hl hb.size, fun j t ht => ?_⟩
    obtain ⟨C, c, h1, h2⟩ := hc j t ht
    exact ⟨C, c, by rw [(bcell hb).1 _ _ hl]; exact h1, h2.keep hb⟩
theorem VwsAt.keep {W W' : World} {A : Option Addr} {V : List Vw} (h : VwsAt W A V) (hb : Below W.heap.size W W') : VwsAt W' A V := by
  rcases h with h | ⟨b, o, rfl, hl, hc⟩
  · exact Or.inl h
  · refine Or.inr ⟨b, o, rfl, Nat.lt_of_lt_of_le hl hb.size, fun j t ht => ?_⟩
    obtain ⟨h1, h2, C, c, h3, h4⟩ := hc j t ht
    exact ⟨by rw [(bcell hb).1 _ _ hl]; exact h1, by rw [(bcell hb).1 _ _ hl]; exact h2, C, c, by rw [(bcell hb).1 _ _ hl]; exact h3, h4.keep hb⟩
theorem ints_at {W : World} {A : Option Addr} {l : List Int} (h : IntsAt W A l) {j : Nat} {x : Int} (hx : l[j]? = some x) : ∃ b o, A = some ⟨b, o, none⟩ ∧ b < W.heap.size ∧ W.cell? ⟨b, o + j, none⟩ = some (.int .i64 x) := by
  rcases h with rfl | ⟨b, o, rfl, hl, hc⟩
  · cases hx
  · exact ⟨b, o, rfl, hl, hc j x hx⟩
theorem tabs_at {W : World} {A : Option Addr} {T : List (List Int)} (h : TabsAt W A T) {j : Nat} {t : List Int} (hx : T[j]? = some t) : ∃ b o C c, A = some ⟨b, o, none⟩ ∧ b < W.heap.size ∧ W.cell? ⟨b, o + j, none⟩ = some (.slice C t.length c) ∧ IntsAt W C t := by
  rcases h with rfl | ⟨b, o, rfl, hl, hc⟩
  · cases hx
  · obtain ⟨C, c, h1, h2⟩ := hc j t hx
    exact ⟨b, o, C, c, rfl, hl, h1, h2⟩
theorem vws_at {W : World} {A : Option Addr} {V : List Vw} (h : VwsAt W A V) {j : Nat} {v : Vw} (hx : V[j]? = some v) : ∃ b o C c, A = some ⟨b, o, none⟩ ∧ b < W.heap.size ∧ W.cell? ⟨b, o + j * 3, none⟩ = some (.int .i64 v.1) ∧ W.cell? ⟨b, o + j * 3 + 1, none⟩ = some (.int .i64 v.2.1) ∧ W.cell? ⟨b, o + j * 3 + 2, none⟩ = some (.slice C v.2.2.length c) ∧ IntsAt W C v.2.2 := by
  rcases h with rfl | ⟨b, o, rfl, hl, hc⟩
  · cases hx
  · obtain ⟨h1, h2, C, c, h3, h4⟩ := hc j v hx
    exact ⟨b, o, C, c, rfl, hl, h1, h2, h3, h4⟩
theorem has_any (a : Int) (n : Nat) (w : World) : Calls Try.prog 40 #[.int .i64 a, .int .i64 n] w fun e w' => e = .returned (.bool (hasB a n)) ∧ w' = w := by
  unfold hasB
  by_cases h0 : 0 ≤ a
  · go_enter Try.func40, Try.ntmps40
    go_wp2_with fail
    go_returns
    exact ⟨ret_bool (by rw [decide_eq_decide]; omega), rfl⟩
  · go_enter Try.func40, Try.ntmps40
    go_wp2_with fail
    go_returns
    exact ⟨ret_bool (by simp; omega), rfl⟩
set_option maxHeartbeats 1000000 in
theorem goodTable_any (A : Option Addr) (c : Nat) (t : List Int) (w : World) (hl : t.length ≤ 281474976710656) (h : IntsAt w A t) :
    Calls Try.prog 32 #[.agg #[.slice A t.length c]] w fun e w' => e = .returned (.bool (goodT t)) ∧ Below w.heap.size w w' := by
  have HA := Lib.hid h
  clear h
  by_cases h1 : t.length < 1
  · have h1I : (t.length : Int) < 1 := by omega
    have hg : goodT t = false := by unfold goodT; rw [decide_eq_false (by omega)]; rfl
    rw [hg]
    clear hg
    go_enter Try.func32, Try.ntmps32
    go_wp2_with fail
    go_returns
    exact ⟨rfl, blA (Below.refl _ _) _⟩
  by_cases h4 : 4 < t.length
  · have h1I : ¬ (t.length : Int) < 1 := by omega
    have h4I : 4 < (t.length : Int) := by omega
    have hg : goodT t = false := by unfold goodT; rw [decide_eq_false (by omega)]; rfl
    rw [hg]
    clear hg
    go_enter Try.func32, Try.ntmps32
    go_wp2_with fail
    go_returns
    exact ⟨rfl, blA (Below.refl _ _) _⟩
  have h1I : ¬ (t.length : Int) < 1 := by omega
  have h4I : ¬ 4 < (t.length : Int) := by omega
  have HG := Lib.hid (show goodT t = t.all fun k => decide (k = 1 ∨ k = 2) from by unfold goodT; rw [decide_eq_true (by omega), Bool.true_and])
  rw [HG.out]
  clear HG
  go_enter Try.func32, Try.ntmps32
  go_wp2_with fail
  have S0 := Lib.hid ((Own.none w).alloc #[.slice A t.length c] 41).bel
  clear h1I h4I
  generalize World.alloc w _ = w1 at *
  go_loopw [18] (fun i wr => ∃ (k : Nat), k ≤ t.length ∧ i = .int .i64 k ∧ ((t.take k).all fun k => decide (k = 1 ∨ k = 2)) = true ∧ Hid (Below w.heap.size w wr)) (fun i _ => t.length - (intOf i).toNat)
  case atStart => exact ⟨0, by omega, rfl, rfl, S0⟩
  case round =>
    clear S0
    obtain ⟨k, hk, rfl, hall, S0⟩ := hrel
    by_cases hlt : k < t.length
    · have hltI : (k : Int) < (t.length : Int) := by omega
      obtain ⟨x, hx⟩ : ∃ x, t[k]? = some x := ⟨_, List.getElem?_eq_getElem hlt⟩
      obtain ⟨b, o, rfl, -, hc⟩ := ints_at (HA.out.keep S0.out) hx
      have htk : t.take (k + 1) = t.take k ++ [x] := by rw [List.take_add_one, hx]; rfl
      by_cases x1 : x = 1
      · subst x1
        go_wp2_with fail
        go_roundw
        case rel => exact ⟨k + 1, by omega, by go_num, by rw [htk, List.all_append, hall]; rfl, S0⟩
        case measure => simp only [intOf]; omega
      · have e1 : (x != 1) = true := bne_iff_ne.2 x1
        by_cases x2 : x = 2
        · subst x2
          go_wp2_with fail
          go_roundw
          case rel => exact ⟨k + 1, by omega, by go_num, by rw [htk, List.all_append, hall]; rfl, S0⟩
          case measure => simp only [intOf]; omega
        · have e2 : (x != 2) = true := bne_iff_ne.2 x2
          have hf : (t.all fun k => decide (k = 1 ∨ k = 2)) = false := List.all_eq_false.2 ⟨x, List.mem_of_getElem? hx, by rw [decide_eq_false (by omega)]; decide⟩
          go_wp2_with fail
          go_returns
          exact ⟨ret_bool hf.symm, S0.out⟩
    · obtain rfl : k = t.length := by omega
      rw [List.take_length] at hall
      go_wp2_with fail
      go_returns
      exact ⟨ret_bool hall.symm, S0.out⟩
theorem getD_of {l : List Int} {k : Nat} {x d : Int} (h : l[k]? = some x) : l.getD k d = x := by rw [List.getD, h]; rfl
set_option maxHeartbeats 4000000 in
theorem goodSums_any (A B : Option Addr) (c d : Nat) (t s : List Int) (w : World) (ht : t.length ≤ 281474976710656) (hs : s.length ≤ 281474976710656) (hA : IntsAt w A t) (hB : IntsAt w B s) :
    Calls Try.prog 44 #[.slice A t.length c, .slice B s.length d] w fun e w' => e = .returned (.bool (goodS t s)) ∧ Below w.heap.size w w' := by
  have HA := Lib.hid hA
  have HB := Lib.hid hB
  clear hA hB
  by_cases h2 : 2 < s.length
  · have h2I : 2 < (s.length : Int) := by omega
    have hg : goodS t s = false := by unfold goodS; rw [decide_eq_false (by omega)]; rfl
    rw [hg]
    clear hg
    go_enter Try.func44, Try.ntmps44
    go_wp2_with fail
    go_returns
    exact ⟨rfl, Below.refl _ _⟩
  have h2I : ¬ 2 < (s.length : Int) := by omega
  have HG := Lib.hid (show goodS t s = (List.range s.length).all (okAt t s) from by unfold goodS; rw [decide_eq_true (by omega), Bool.true_and])
  rw [HG.out]
  clear HG
  have S0 := Lib.hid (Below.refl w.heap.size w)
  go_enter Try.func44, Try.ntmps44
  go_wp2_with fail
  clear h2I
  go_loopw [13] (fun i wr => ∃ (k : Nat), k ≤ s.length ∧ i = .int .i64 k ∧ ((List.range k).all (okAt t s)) = true ∧ Hid (Below w.heap.size w wr)) (fun i _ => s.length - (intOf i).toNat)
  case atStart => exact ⟨0, by omega, rfl, rfl, S0⟩
  case round =>
    clear S0
    obtain ⟨k, hk, rfl, hall, S0⟩ := hrel
    by_cases hlt : k < s.length
    · have hltI : (k : Int) < (s.length : Int) := by omega
      obtain ⟨x, hx⟩ : ∃ x, s[k]? = some x := ⟨_, List.getElem?_eq_getElem hlt⟩
      obtain ⟨b, o, rfl, -, hc⟩ := ints_at (HB.out.keep S0.out) hx
      have hsx : s.getD k 0 = x := getD_of hx
      have HH := Lib.hid (has_any x t.length)
      -- whether it rises
      obtain ⟨rs, hrs⟩ : ∃ r, r = (decide (k = 0) || decide (s.getD (k - 1) 0 < x)) := ⟨_, rfl⟩
      have HF : ∀ b1 : Bool, okAt t s k = b1 → b1 = false → ((List.range s.length).all (okAt t s)) = false := fun b1 h1 h2 => List.all_eq_false.2 ⟨k, List.mem_range.2 hlt, by rw [h1, h2]; decide⟩
      have HO : okAt t s k = (rs && hasB x t.length && decide (t.getD x.toNat 0 = 1)) := by unfold okAt; rw [hsx, ← hrs]
      have HS : ∀ (W : World), Hid (Below w.heap.size w W) → rs = true → hasB x t.length = true → t.getD x.toNat 0 = 1 → ((List.range (k + 1)).all (okAt t s)) = true := fun W _ h1 h2 h3 => by
        rw [List.range_succ, List.all_append, hall]
        simp only [List.all_cons, List.all_nil, HO, h1, h2, h3, decide_true, Bool.and_true, Bool.true_and]
      -- the region that tells
      by_cases hk0 : k = 0
      · subst hk0
        rw [Nat.add_zero] at hc
        have hr : rs = true := by rw [hrs]; rfl
        cases hh : hasB x t.length with
        | false =>
          have hz := HF _ HO (by rw [hr, hh]; rfl)
          rw [hh] at HH
          clear HF HS HO
          go_wp2_with fail
          refine (HH.out _).mono ?_
          rintro e w2 ⟨rfl, rfl⟩
          go_wp2_with fail
          go_returns
          first | exact ⟨ret_bool hz.symm, S0.out⟩ | exact ⟨rfl, S0.out⟩
        | true =>
          have hh2 : 0 ≤ x ∧ x < t.length := of_decide_eq_true hh
          obtain ⟨hx0, hxl⟩ := hh2
          obtain ⟨z, hz⟩ : ∃ z, t[x.toNat]? = some z := ⟨_, List.getElem?_eq_getElem (by omega)⟩
          obtain ⟨b3, o3, rfl, -, hc3⟩ := ints_at (HA.out.keep S0.out) hz
          have htz : t.getD x.toNat 0 = z := getD_of hz
          rw [hh] at HH
          by_cases h1 : z = 1
          · subst h1
            have hs2 := HS _ S0 hr hh htz
            clear HF HS HO
            go_wp2_with fail
            refine (HH.out _).mono ?_
            rintro e w2 ⟨rfl, rfl⟩
            go_wp2_with fail
            go_roundw
            case rel => exact ⟨_, by omega, by go_num, hs2, S0⟩
            case measure => simp only [intOf]; omega
          · have hq := HF _ HO (by rw [hr, hh, htz, decide_eq_false h1]; rfl)
            have h1b : (z != 1) = true := bne_iff_ne.2 h1
            clear HF HS HO
            go_wp2_with fail
            refine (HH.out _).mono ?_
            rintro e w2 ⟨rfl, rfl⟩
            go_wp2_with fail
            go_returns
            exact ⟨ret_bool hq.symm, S0.out⟩
      · have hk1 : (((k : Nat) : Int) == 0) = false := beq_eq_false_iff_ne.2 (by omega)
        obtain ⟨y, hy⟩ : ∃ y, s[k - 1]? = some y := ⟨_, List.getElem?_eq_getElem (by omega)⟩
        obtain ⟨b2, o2, e2, -, hc2⟩ := ints_at (HB.out.keep S0.out) hy
        injection e2 with e2
        injection e2 with e2 e3
        subst e2 e3
        have hsy : s.getD (k - 1) 0 = y := getD_of hy
        have hkw : IntKind.i64.wrap ((k : Int) - 1) = ((k - 1 : Nat) : Int) := by rw [i64_is, IntWalk.wrap64_in _ ⟨by omega, by omega⟩]; omega
        have hkm0 : (0 : Int) ≤ ((k - 1 : Nat) : Int) := by omega
        have hkml : ((k - 1 : Nat) : Int) < (s.length : Int) := by omega
        by_cases hyx : y < x
        · have hr : rs = true := by rw [hrs, hsy, decide_eq_true hyx, Bool.or_true]
          cases hh : hasB x t.length with
          | false =>
            have hz := HF _ HO (by rw [hr, hh]; rfl)
            rw [hh] at HH
            clear HF HS HO
            go_wp2_with fail
            refine (HH.out _).mono ?_
            rintro e w2 ⟨rfl, rfl⟩
            go_wp2_with fail
            go_returns
            first | exact ⟨ret_bool hz.symm, S0.out⟩ | exact ⟨rfl, S0.out⟩
          | true =>
            have hh2 : 0 ≤ x ∧ x < t.length := of_decide_eq_true hh
            obtain ⟨hx0, hxl⟩ := hh2
            obtain ⟨z, hz⟩ : ∃ z, t[x.toNat]? = some z := ⟨_, List.getElem?_eq_getElem (by omega)⟩
            obtain ⟨b3, o3, rfl, -, hc3⟩ := ints_at (HA.out.keep S0.out) hz
            have htz : t.getD x.toNat 0 = z := getD_of hz
            rw [hh] at HH
            by_cases h1 : z = 1
            · subst h1
              have hs2 := HS _ S0 hr hh htz
              clear HF HS HO
              go_wp2_with fail
              refine (HH.out _).mono ?_
              rintro e w2 ⟨rfl, rfl⟩
              go_wp2_with fail
              go_roundw
              case rel => exact ⟨_, by omega, by go_num, hs2, S0⟩
              case measure => simp only [intOf]; omega
            · have hq := HF _ HO (by rw [hr, hh, htz, decide_eq_false h1]; rfl)
              have h1b : (z != 1) = true := bne_iff_ne.2 h1
              clear HF HS HO
              go_wp2_with fail
              refine (HH.out _).mono ?_
              rintro e w2 ⟨rfl, rfl⟩
              go_wp2_with fail
              go_returns
              exact ⟨ret_bool hq.symm, S0.out⟩
        · have hr : rs = false := by rw [hrs, hsy, decide_eq_false hk0, decide_eq_false hyx]; rfl
          have hz := HF _ HO (by rw [hr]; rfl)
          clear HF HS HO
          go_wp2_with fail
          go_returns
          first | exact ⟨ret_bool hz.symm, S0.out⟩ | exact ⟨rfl, S0.out⟩
    · obtain rfl : k = s.length := by omega
      go_wp2_with fail
      go_returns
      exact ⟨ret_bool hall.symm, S0.out⟩
theorem getD_ofT {l : List (List Int)} {k : Nat} {x d : List Int} (h : l[k]? = some x) : l.getD k d = x := by rw [List.getD, h]; rfl
set_option maxHeartbeats 4000000 in
theorem goodView_any (A C : Option Addr) (c d : Nat) (T : List (List Int)) (v : Vw) (w : World) (hT : T.length ≤ 281474976710656) (hTl : ∀ t, t ∈ T → t.length ≤ 281474976710656) (hs : v.2.2.length ≤ 281474976710656) (hA : TabsAt w A T) (hC : IntsAt w C v.2.2) :
    Calls Try.prog 33 #[.slice A T.length c, .agg #[.int .i64 v.1, .int .i64 v.2.1, .slice C v.2.2.length d]] w fun e w' => e = .returned (.bool (goodW T v)) ∧ Below w.heap.size w w' := by
  obtain ⟨a, b, s⟩ := v
  dsimp only at *
  have HA := Lib.hid hA
  have HC := Lib.hid hC
  have HH := Lib.hid (has_any a T.length)
  clear hA hC
  unfold goodW
  cases hh : hasB a T.length with
  | false =>
    rw [hh] at HH
    go_enter Try.func33, Try.ntmps33
    go_wp2_with fail
    refine (HH.out _).mono ?_
    rintro e w2 ⟨rfl, rfl⟩
    go_wp2_with fail
    go_returns
    exact ⟨rfl, blA (Below.refl _ _) _⟩
  | true =>
    rw [hh] at HH
    have hh2 : 0 ≤ a ∧ a < T.length := of_decide_eq_true hh
    obtain ⟨ha0, hal⟩ := hh2
    obtain ⟨t, ht⟩ : ∃ t, T[a.toNat]? = some t := ⟨_, List.getElem?_eq_getElem (by omega)⟩
    have htt : T.getD a.toNat [] = t := getD_ofT ht
    have htl := hTl t (List.mem_of_getElem? ht)
    rw [htt]
    dsimp only
    have HB := Lib.hid (has_any b t.length)
    go_enter Try.func33, Try.ntmps33
    go_wp2_with fail
    refine (HH.out _).mono ?_
    rintro e w2 ⟨rfl, rfl⟩
    have S0 := Lib.hid ((Own.none w).alloc #[.int .i64 a, .int .i64 b, .slice C s.length d] 44)
    obtain ⟨g, hgz⟩ : ∃ g, g = w.heap.size := ⟨_, rfl⟩
    rw [← hgz] at S0 ⊢
    clear hgz
    generalize World.alloc w _ = w1 at *
    obtain ⟨ba, oa, D, e, rfl, -, hct, hD⟩ := tabs_at (HA.out.keep S0.out.bel) ht
    have hB := S0.out.has (Has.l (has_blk g _ _))
    have c0 := hB.cell 0
    have c1 := hB.cell 1
    have c2 := hB.cell 2
    simp only [List.getElem?_toArray, List.getElem?_cons_zero, List.getElem?_cons_succ] at c0 c1 c2
    have HD := Lib.hid hD
    clear hD hB
    go_wp2_with fail
    refine (HB.out _).mono ?_
    rintro e2 w2 ⟨rfl, rfl⟩
    cases hb : hasB b t.length with
    | false =>
      go_wp2_with fail
      go_returns
      exact ⟨ret_bool (by rw [hb]; rfl), S0.out.bel⟩
    | true =>
      have HS := Lib.hid (goodSums_any D C e d t s _ htl hs HD.out (HC.out.keep S0.out.bel))
      go_wp2_with fail
      refine (HS.out).mono ?_
      rintro e3 w3 ⟨rfl, hX⟩
      have S1 := Lib.hid (S0.out.below hX)
      clear hX S0 HS c0 c1 c2
      go_wp2_with fail
      go_returns
      exact ⟨ret_bool (by rw [hb]; rfl), S1.out.bel⟩
/-- A plan in memory. -/
def PlanAt (w : World) (p : Value) (T : List (List Int)) (V : List Vw) : Prop := ∃ A c B d, p = .agg #[.slice A T.length c, .slice B V.length d] ∧ TabsAt w A T ∧ VwsAt w B V ∧ T.length ≤ 281474976710656 ∧ V.length ≤ 281474976710656 ∧ (∀ t, t ∈ T → t.length ≤ 281474976710656) ∧ ∀ v, v ∈ V → v.2.2.length ≤ 281474976710656
set_option maxHeartbeats 4000000 in
theorem Good_any (p : Value) (T : List (List Int)) (V : List Vw) (w : World) (h : PlanAt w p T V) :
    Calls Try.prog 16 #[p] w fun e w' => e = .returned (.bool (goodP T V)) ∧ Below w.heap.size w w' := by
  obtain ⟨A, c, B, d, rfl, hA, hB, hT, hV, hTl, hVl⟩ := h
  have HA := Lib.hid hA
  have HB := Lib.hid hB
  clear hA hB
  by_cases hg : 1 ≤ T.length ∧ T.length ≤ 3 ∧ V.length ≤ 4
  · obtain ⟨h1, h3, h4⟩ := hg
    have h1I : ¬ (T.length : Int) < 1 := by omega
    have h3I : ¬ 3 < (T.length : Int) := by omega
    have h4I : ¬ 4 < (V.length : Int) := by omega
    have HG := Lib.hid (show goodP T V = (T.all goodT && V.all (goodW T)) from by unfold goodP; rw [decide_eq_true ⟨h1, h3, h4⟩, Bool.true_and])
    rw [HG.out]
    clear HG
    go_enter Try.func16, Try.ntmps16
    go_upto_region 1 with fail
    have S0 := Lib.hid ((Own.none w).alloc #[.slice A T.length c, .slice B V.length d] 47)
    obtain ⟨g, hgz⟩ : ∃ g, g = w.heap.size := ⟨_, rfl⟩
    rw [← hgz] at S0 ⊢
    clear hgz
    generalize World.alloc w _ = w1 at *
    have c0 := (S0.out.has (Has.l (has_blk g _ _))).cell 0
    have c1 := (S0.out.has (Has.l (has_blk g _ _))).cell 1
    simp only [List.getElem?_toArray, List.getElem?_cons_zero, List.getElem?_cons_succ] at c0 c1
    go_wp2_with fail
    clear c0 c1 h1I h3I h4I
    go_loopw [26] (fun i wr => ∃ (k : Nat), k ≤ T.length ∧ i = .int .i64 k ∧ ((T.take k).all goodT) = true ∧ Hid (Own w No wr (Asn.blk g 47 #[.slice A T.length c, .slice B V.length d] * Asn.emp))) (fun i _ => T.length - (intOf i).toNat)
    case atStart => exact ⟨0, by omega, rfl, rfl, S0⟩
    case round =>
      clear S0
      obtain ⟨k, hk, rfl, hall, S0⟩ := hrel
      by_cases hlt : k < T.length
      · as_aux_lemma =>
          have hltI : (k : Int) < (T.length : Int) := by omega
          obtain ⟨t, ht⟩ : ∃ t, T[k]? = some t := ⟨_, List.getElem?_eq_getElem hlt⟩
          obtain ⟨ba, oa, D, e, rfl, -, hct, hD⟩ := tabs_at (HA.out.keep S0.out.bel) ht
          have htl := hTl t (List.mem_of_getElem? ht)
          have HD := Lib.hid hD
          have htk : T.take (k + 1) = T.take k ++ [t] := by rw [List.take_add_one, ht]; rfl
          clear hD
          go_upto_region 6 with fail
          have S1 := Lib.hid (S0.out.alloc #[.slice D t.length e] 41)
          have HD1 := Lib.hid (HD.out.keep (show Below wr.heap.size wr (wr.alloc (.cells #[.slice D t.length e] 41)) from blA (Below.refl _ _) _))
          obtain ⟨gt, hgz⟩ : ∃ g, g = wr.heap.size := ⟨_, rfl⟩
          rw [← hgz] at S1 ⊢
          clear hgz hct HD
          generalize World.alloc wr _ = w5 at *
          have c0 := (S1.out.has (Has.l (has_blk gt _ _))).cell 0
          simp only [List.getElem?_toArray, List.getElem?_cons_zero, List.getElem?_cons_succ] at c0
          have S2 := Lib.hid S1.out.right
          have HT := Lib.hid (goodTable_any D e t w5 htl HD1.out)
          clear S0 S1
          cases hgt : goodT t with
          | true =>
            rw [hgt] at HT
            go_wp2_with fail
            refine HT.out.mono ?_
            rintro e3 w6 ⟨rfl, hX⟩
            have S3 := Lib.hid (S2.out.below hX)
            clear hX S2 HT c0
            go_wp2_with fail
            go_roundw
            case rel => exact ⟨k + 1, by omega, by go_num, by rw [htk, List.all_append, hall]; simp [hgt], S3⟩
            case measure => simp only [intOf]; omega
          | false =>
            rw [hgt] at HT
            have hz : (T.all goodT && V.all (goodW T)) = false := by rw [List.all_eq_false.2 ⟨t, List.mem_of_getElem? ht, by rw [hgt]; decide⟩]; rfl
            have HZ := Lib.hid hz
            clear hz
            go_wp2_with fail
            refine HT.out.mono ?_
            rintro e3 w6 ⟨rfl, hX⟩
            have S3 := Lib.hid (S2.out.below hX)
            clear hX S2 HT c0
            go_wp2_with fail
            go_returns
            exact ⟨ret_bool HZ.out.symm, S3.out.bel⟩
      · as_aux_lemma =>
          obtain rfl : k = T.length := by omega
          rw [List.take_length] at hall
          have HQ := Lib.hid (show (T.all goodT && V.all (goodW T)) = V.all (goodW T) from by rw [hall, Bool.true_and])
          clear hall hlt
          have c0 := (S0.out.has (Has.l (has_blk g _ _))).cell 0
          have c1 := (S0.out.has (Has.l (has_blk g _ _))).cell 1
          simp only [List.getElem?_toArray, List.getElem?_cons_zero, List.getElem?_cons_succ] at c0 c1
          go_wp2_with fail
          clear c0 c1
          go_loopw [37] (fun i wr => ∃ (k : Nat), k ≤ V.length ∧ i = .int .i64 k ∧ ((V.take k).all (goodW T)) = true ∧ Hid (Own w No wr (Asn.blk g 47 #[.slice A T.length c, .slice B V.length d] * Asn.emp))) (fun i _ => V.length - (intOf i).toNat)
          case atStart => exact ⟨0, by omega, rfl, rfl, S0⟩
          case round =>
            clear S0
            obtain ⟨k, hk, rfl, hall, S0⟩ := hrel
            by_cases hlt : k < V.length
            · as_aux_lemma =>
                have hltI : (k : Int) < (V.length : Int) := by omega
                obtain ⟨v, hv⟩ : ∃ v, V[k]? = some v := ⟨_, List.getElem?_eq_getElem hlt⟩
                obtain ⟨bb, ob, D, e, rfl, -, hc0, hc1, hc2, hD⟩ := vws_at (HB.out.keep S0.out.bel) hv
                have hvl := hVl v (List.mem_of_getElem? hv)
                have HD := Lib.hid hD
                have htk : V.take (k + 1) = V.take k ++ [v] := by rw [List.take_add_one, hv]; rfl
                clear hD
                go_upto_region 12 with fail
                have S1 := Lib.hid (S0.out.alloc #[.int .i64 v.1, .int .i64 v.2.1, .slice D v.2.2.length e] 44)
                have HD1 := Lib.hid (HD.out.keep (show Below wr.heap.size wr (wr.alloc (.cells #[.int .i64 v.1, .int .i64 v.2.1, .slice D v.2.2.length e] 44)) from blA (Below.refl _ _) _))
                obtain ⟨gt, hgz⟩ : ∃ g, g = wr.heap.size := ⟨_, rfl⟩
                rw [← hgz] at S1 ⊢
                clear hgz hc0 hc1 hc2 HD
                generalize World.alloc wr _ = w5 at *
                have d0 := (S1.out.has (Has.l (has_blk gt _ _))).cell 0
                have d1 := (S1.out.has (Has.l (has_blk gt _ _))).cell 1
                have d2 := (S1.out.has (Has.l (has_blk gt _ _))).cell 2
                have c0 := (S1.out.has (Has.r (Has.l (has_blk g _ _)))).cell 0
                simp only [List.getElem?_toArray, List.getElem?_cons_zero, List.getElem?_cons_succ] at c0 d0 d1 d2
                have S2 := Lib.hid S1.out.right
                have HT := Lib.hid (goodView_any A D c e T v w5 hT hTl hvl (HA.out.keep S1.out.bel) HD1.out)
                clear S0 S1
                cases hgt : goodW T v with
                | true =>
                  rw [hgt] at HT
                  go_wp2_with fail
                  refine HT.out.mono ?_
                  rintro e3 w6 ⟨rfl, hX⟩
                  have S3 := Lib.hid (S2.out.below hX)
                  clear hX S2 HT c0 d0 d1 d2
                  go_wp2_with fail
                  go_roundw
                  case rel => exact ⟨k + 1, by omega, by go_num, by rw [htk, List.all_append, hall]; simp [hgt], S3⟩
                  case measure => simp only [intOf]; omega
                | false =>
                  rw [hgt] at HT
                  have HZ := Lib.hid (show V.all (goodW T) = false from List.all_eq_false.2 ⟨v, List.mem_of_getElem? hv, by rw [hgt]; decide⟩)
                  go_wp2_with fail
                  refine HT.out.mono ?_
                  rintro e3 w6 ⟨rfl, hX⟩
                  have S3 := Lib.hid (S2.out.below hX)
                  clear hX S2 HT c0 d0 d1 d2
                  go_wp2_with fail
                  go_returns
                  exact ⟨ret_bool (HQ.out.trans HZ.out).symm, S3.out.bel⟩
            · as_aux_lemma =>
                obtain rfl : k = V.length := by omega
                rw [List.take_length] at hall
                have HR := Lib.hid hall
                clear hall
                go_wp2_with fail
                go_returns
                exact ⟨ret_bool (HQ.out.trans HR.out).symm, S0.out.bel⟩
  · have HG := Lib.hid (show goodP T V = false from by unfold goodP; rw [decide_eq_false hg]; rfl)
    rw [HG.out]
    clear HG
    by_cases h1 : T.length < 1
    · have h1I : (T.length : Int) < 1 := by omega
      go_enter Try.func16, Try.ntmps16
      go_wp2_with fail
      go_returns
      exact ⟨rfl, blA (Below.refl _ _) _⟩
    · have h1I : ¬ (T.length : Int) < 1 := by omega
      by_cases h3 : 3 < T.length
      · have h3I : 3 < (T.length : Int) := by omega
        go_enter Try.func16, Try.ntmps16
        go_wp2_with fail
        go_returns
        exact ⟨rfl, blA (Below.refl _ _) _⟩
      · have h3I : ¬ 3 < (T.length : Int) := by omega
        have h4I : 4 < (V.length : Int) := by omega
        go_enter Try.func16, Try.ntmps16
        go_wp2_with fail
        go_returns
        exact ⟨rfl, blA (Below.refl _ _) _⟩
end Go.Proofs.Ytoofoalpffoheaa.Pn
