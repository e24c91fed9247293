/- The document's join of two modes; and that its answers are the code's, mode by mode. -/
import Derived.Test.YtcbpiipnmgnepaaDoorMdB
namespace Go.Proofs.YtcbpiipnmgnepaaDoor.Md
open Go.ChangeShapes Go.WideShapes Go.ChangeAt Go.RowKit Go.PlainAid Aid
set_option linter.unusedVariables false
set_option linter.unusedSimpArgs false

theorem goodZ_cases (a : Int) : goodZ a = false ∨ ∃ k : Fin 10, a = (k.val : Int) := by
  cases h : goodZ a
  · exact Or.inl rfl
  · obtain ⟨k, h1, h9, rfl⟩ := goodZ_nat h
    exact Or.inr ⟨⟨k, by omega⟩, rfl⟩
theorem inL_bad {l : List (Int × Int)} (hl : ∀ p ∈ l, goodZ p.1 = true ∧ goodZ p.2 = true) {a b : Int} (h : goodZ a = false ∨ goodZ b = false) : inL l a b = false := by
  unfold inL
  rw [List.any_eq_false]
  intro p hp
  obtain ⟨h1, h2⟩ := hl p hp
  simp only [Bool.and_eq_true, beq_iff_eq, not_and]
  rintro rfl rfl
  rcases h with h | h
  · rw [h] at h1; cases h1
  · rw [h] at h2; cases h2
theorem covP_good : ∀ p ∈ covP, goodZ p.1 = true ∧ goodZ p.2 = true := by decide
theorem goesP_good : ∀ p ∈ goesP, goodZ p.1 = true ∧ goodZ p.2 = true := by decide
theorem covR_bad {a b : Int} (h : goodZ a = false ∨ goodZ b = false) : covR a b = false := by
  unfold covR
  rw [inL_bad covP_good h, Bool.or_false]
  rcases h with h | h
  · rw [h, Bool.false_and]
  · by_cases e : a = b
    · subst e; rw [h, Bool.false_and]
    · simp [e]
theorem goes_same (a b : Int) : goesR a b = goesZ a b := by
  by_cases h : goodZ a = false ∨ goodZ b = false
  · have : goesZ a b = false := by
      unfold goesZ
      rcases h with h | h <;> simp [h]
    rw [this, goesR, inL_bad goesP_good h, inL_bad goesP_good h.symm]; rfl
  · simp only [not_or, Bool.not_eq_false] at h
    obtain ⟨i, hi1, hi9, rfl⟩ := goodZ_nat h.1
    obtain ⟨j, hj1, hj9, rfl⟩ := goodZ_nat h.2
    have : ∀ i j : Fin 10, goesR i.val j.val = goesZ i.val j.val := by decide +kernel
    exact this ⟨i, by omega⟩ ⟨j, by omega⟩
theorem cov_same (a b : Int) : covR a b = covZ a b := by
  by_cases h : goodZ a = false ∨ goodZ b = false
  · have : covZ a b = false := by
      unfold covZ
      rcases h with h | h <;> simp [h]
    rw [this, covR_bad h]
  · simp only [not_or, Bool.not_eq_false] at h
    obtain ⟨i, hi1, hi9, rfl⟩ := goodZ_nat h.1
    obtain ⟨j, hj1, hj9, rfl⟩ := goodZ_nat h.2
    have : ∀ i j : Fin 10, covR i.val j.val = covZ i.val j.val := by decide +kernel
    exact this ⟨i, by omega⟩ ⟨j, by omega⟩

def upR (a b c : Int) : Bool := covR c a && covR c b
def flagR (a b c : Int) (k : Nat) : Bool := (List.range k).all fun d => !(upR a b ((d : Int) + 1) && !covR ((d : Int) + 1) c)
theorem flagR_succ (a b c : Int) (k : Nat) : flagR a b c (k + 1) = (flagR a b c k && !(upR a b ((k : Int) + 1) && !covR ((k : Int) + 1) c)) := by
  unfold flagR
  rw [List.range_succ, List.all_append]
  simp
def joinG (a b : Int) : Nat → Nat → Nat
  | 0, _ => 0
  | n + 1, c => if upR a b c && flagR a b c 9 then c else joinG a b n (c + 1)
def joinR (a b : Int) : Nat := joinG a b 9 1
theorem join_same (a b : Int) : joinR a b = joinZ a b := by
  by_cases h : goodZ a = false ∨ goodZ b = false
  · have h0 : joinZ a b = 0 := by
      unfold joinZ
      rcases h with h | h <;> simp [h]
    have hu : ∀ c, upR a b c = false := by
      intro c
      unfold upR
      rcases h with h | h
      · rw [covR_bad (Or.inr h), Bool.false_and]
      · rw [covR_bad (a := c) (Or.inr h), Bool.and_false]
    have : ∀ n c, joinG a b n c = 0 := by
      intro n
      induction n with
      | zero => intro c; rfl
      | succ n ih => intro c; rw [joinG, hu, Bool.false_and, if_neg (by simp), ih]
    rw [h0, joinR, this]
  · simp only [not_or, Bool.not_eq_false] at h
    obtain ⟨i, hi1, hi9, rfl⟩ := goodZ_nat h.1
    obtain ⟨j, hj1, hj9, rfl⟩ := goodZ_nat h.2
    have : ∀ i j : Fin 10, joinR i.val j.val = joinZ i.val j.val := by decide +kernel
    exact this ⟨i, by omega⟩ ⟨j, by omega⟩

set_option maxHeartbeats 4000000 in
theorem refJoin_any (a b : Int) (w : World) :
    Calls Tryd.prog 14 #[.int .i64 a, .int .i64 b] w fun e w' => e = .returned (.int .i64 (joinR a b)) ∧ Below w.heap.size w w' := by
  have CA := fun (c : Int) W => refCovers_any c a W
  have CB := fun (c : Int) W => refCovers_any c b W
  have CC := fun (c d : Int) W => refCovers_any d c W
  go_enter Tryd.func14, Tryd.ntmps14
  go_wp2_with fail
  go_loopw [5] (fun i wr => ∃ n c : Nat, c + n = 10 ∧ 1 ≤ c ∧ i = .int .i64 c ∧ Hid (joinR a b = joinG a b n c) ∧ Hid (Below w.heap.size w wr)) (fun i _ => 10 - (intOf i).toNat)
  case atStart => exact ⟨9, 1, rfl, Nat.le_refl _, rfl, rfl, Below.refl _ _⟩
  case round =>
    obtain ⟨n, c, hc, h1, rfl, HJ, HB⟩ := hrel
    cases n with
    | zero =>
      obtain rfl : c = 10 := by omega
      go_wp2_with fail
      go_returns
      rw [HJ.out]
      exact ⟨rfl, HB.out⟩
    | succ n =>
      have HJ2 := Lib.hid HJ.out
      rw [joinG] at HJ2
      clear HJ
      have HU : Hid (upR a b c = (covR c a && covR c b)) := Lib.hid rfl
      cases ha : covR c a
      · rw [HU.out, ha, Bool.false_and, Bool.false_and, if_neg (by decide)] at HJ2
        have C1 := CA c
        rw [ha] at C1
        go_wp2_with fail
        refine (C1 wr).mono ?_
        rintro e w2 ⟨rfl, hb⟩
        have B2 := Lib.hid (bl HB.out hb)
        clear hb HB
        go_wp2_with fail
        go_round
        case rel => exact ⟨n, c + 1, by omega, by omega, by go_num, HJ2, B2⟩
        case measure => simp only [intOf]; omega
      cases hb' : covR c b
      · rw [HU.out, ha, hb', Bool.true_and, Bool.false_and, if_neg (by decide)] at HJ2
        have C1 := CA c
        have C2 := CB c
        rw [ha] at C1
        rw [hb'] at C2
        go_wp2_with fail
        refine (C1 wr).mono ?_
        rintro e w2 ⟨rfl, hb⟩
        have B2 := Lib.hid (bl HB.out hb)
        clear hb HB
        go_wp2_with fail
        refine (C2 w2).mono ?_
        rintro e w3 ⟨rfl, hb⟩
        have B3 := Lib.hid (bl B2.out hb)
        clear hb B2
        go_wp2_with fail
        go_round
        case rel => exact ⟨n, c + 1, by omega, by omega, by go_num, HJ2, B3⟩
        case measure => simp only [intOf]; omega
      rw [HU.out, ha, hb', Bool.true_and, Bool.true_and] at HJ2
      have C1 := CA c
      have C2 := CB c
      rw [ha] at C1
      rw [hb'] at C2
      clear ha hb' HU
      go_wp2_with fail
      refine (C1 wr).mono ?_
      rintro e w2 ⟨rfl, hb⟩
      have B2 := Lib.hid (bl HB.out hb)
      clear hb HB
      go_wp2_with fail
      refine (C2 w2).mono ?_
      rintro e w3 ⟨rfl, hb⟩
      have B3 := Lib.hid (bl B2.out hb)
      clear hb B2
      clear C1 C2
      go_wp2_with fail
      go_loopw [6, 7] (fun f i wq => ∃ d : Nat, d ≤ 9 ∧ i = .int .i64 ((d : Int) + 1) ∧ f = .bool (flagR a b c d) ∧ Hid (Below w.heap.size w wq)) (fun _ i => fun _ => 11 - (intOf i).toNat)
      case atStart => exact ⟨0, by omega, rfl, rfl, B3⟩
      case round =>
        obtain ⟨d, hd, rfl, rfl, B4⟩ := hrel
        by_cases hlt : d < 9
        · have HF := Lib.hid (flagR_succ a b c d)
          have HV : Hid (upR a b ((d : Int) + 1) = (covR ((d : Int) + 1) a && covR ((d : Int) + 1) b)) := Lib.hid rfl
          have D1 := CA ((d : Int) + 1)
          have D2 := CB ((d : Int) + 1)
          have D3 := CC c ((d : Int) + 1)
          generalize covR ((d : Int) + 1) a = x1 at *
          generalize covR ((d : Int) + 1) b = x2 at *
          generalize covR ((d : Int) + 1) (c : Int) = x3 at *
          generalize flagR a b c d = fl at *
          generalize upR a b ((d : Int) + 1) = up at *
          cases x1
          · go_wp2_with fail
            refine (D1 _).mono ?_
            rintro e w5 ⟨rfl, hb⟩
            have B5 := Lib.hid (bl B4.out hb)
            clear hb B4
            go_wp2_with fail
            go_round
            case rel => exact ⟨d + 1, by omega, by go_num, by rw [HF.out, HV.out]; simp, B5⟩
            case measure => simp only [intOf]; omega
          cases x2
          · go_wp2_with fail
            refine (D1 _).mono ?_
            rintro e w5 ⟨rfl, hb⟩
            have B5 := Lib.hid (bl B4.out hb)
            clear hb B4
            go_wp2_with fail
            refine (D2 _).mono ?_
            rintro e w6 ⟨rfl, hb⟩
            have B6 := Lib.hid (bl B5.out hb)
            clear hb B5
            go_wp2_with fail
            go_round
            case rel => exact ⟨d + 1, by omega, by go_num, by rw [HF.out, HV.out]; simp, B6⟩
            case measure => simp only [intOf]; omega
          cases x3
          · go_wp2_with fail
            refine (D1 _).mono ?_
            rintro e w5 ⟨rfl, hb⟩
            have B5 := Lib.hid (bl B4.out hb)
            clear hb B4
            go_wp2_with fail
            refine (D2 _).mono ?_
            rintro e w6 ⟨rfl, hb⟩
            have B6 := Lib.hid (bl B5.out hb)
            clear hb B5
            go_wp2_with fail
            refine (D3 _).mono ?_
            rintro e w7 ⟨rfl, hb⟩
            have B7 := Lib.hid (bl B6.out hb)
            clear hb B6
            go_wp2_with fail
            go_round
            case rel => exact ⟨d + 1, by omega, by go_num, by rw [HF.out, HV.out]; simp, B7⟩
            case measure => simp only [intOf]; omega
          · go_wp2_with fail
            refine (D1 _).mono ?_
            rintro e w5 ⟨rfl, hb⟩
            have B5 := Lib.hid (bl B4.out hb)
            clear hb B4
            go_wp2_with fail
            refine (D2 _).mono ?_
            rintro e w6 ⟨rfl, hb⟩
            have B6 := Lib.hid (bl B5.out hb)
            clear hb B5
            go_wp2_with fail
            refine (D3 _).mono ?_
            rintro e w7 ⟨rfl, hb⟩
            have B7 := Lib.hid (bl B6.out hb)
            clear hb B6
            go_wp2_with fail
            go_round
            case rel => exact ⟨d + 1, by omega, by go_num, by rw [HF.out, HV.out]; simp, B7⟩
            case measure => simp only [intOf]; omega
        · obtain rfl : d = 9 := by omega
          generalize flagR a b c 9 = fl at *
          cases fl
          · rw [if_neg (by decide)] at HJ2
            go_wp2_with fail
            go_round
            case rel => exact ⟨n, c + 1, by omega, by omega, by go_num, HJ2, B4⟩
            case measure => simp only [intOf]; omega
          · rw [if_pos rfl] at HJ2
            go_wp2_with fail
            go_returns
            rw [HJ2.out]
            exact ⟨rfl, B4.out⟩
end Go.Proofs.YtcbpiipnmgnepaaDoor.Md
