/- The walk of ModeJoins. -/
import Derived.Test.YtcbpiipnmgnepaaDoorMdW
namespace Go.Proofs.YtcbpiipnmgnepaaDoor.Md
open Go.ChangeShapes Go.WideShapes Go.ChangeAt Go.RowKit Go.PlainAid Aid
set_option linter.unusedVariables false
set_option linter.unusedSimpArgs false
set_option maxHeartbeats 16000000 in
theorem joins_walk (a b c : Int) (w : World) (ht : Tabs w) :
    Calls Tryd.prog 4 #[.int .i64 a, .int .i64 b, .int .i64 c] w fun e w' => e = .returned (.bool true) ∧ Below w.heap.size w w' := by
  have hx2 := join_turn a b
  have hg := @join_good a b
  have ha := join_above a b
  have hl := join_below a b c
  have h3 := join_three a b c
  have hq := fun h => cov_goes (joinZ a b) a c h
  have hr := fun h => cov_goes (joinZ a b) b c h
  cases hx : joinZ a b
  case' zero =>
    rw [hx] at hx2 hl
    clear hg ha h3 hq hr
    cases ga : goodZ a
  case' zero.true => have hs := join_self a ga
  case' zero.true => cases ca : covZ c a
  case' zero.true.true => (cases cb : covZ c b); case' true => (exact absurd (hl ca cb) (by rw [covZ_bad (Or.inr rfl)]; decide))
  case' zero.false => (cases ca : covZ c a); case' true => (exact absurd ca (by rw [covZ_bad (Or.inr ga)]; decide))
  case' succ n =>
    rw [hx] at hx2 hg ha hl h3 hq hr
    obtain ⟨X, hX⟩ : ∃ X, X = n + 1 := ⟨_, rfl⟩
    have hn : X ≠ 0 := by omega
    rw [← hX] at hx hx2 hg ha hl h3 hq hr
    clear hX
    obtain ⟨ga, gb⟩ := hg hn
    obtain ⟨ka, kb⟩ := ha hn
    have hs := join_self a ga
    replace hq := hq ka
    replace hr := hr kb
    replace h3 := h3 hn
    have hn1 : ((X : Int) != 0) = true := by simpa using hn
    have hn2 : ((X : Int) == 0) = false := by simpa using hn
    clear hg ha n
    cases gx : goesZ X c
  case' succ.true => (have gx1 := hq gx; have gx2 := hr gx; clear hq hr)
  case' succ.false => clear hq hr
  case' succ.true => cases ca : covZ c a
  case' succ.false => cases ca : covZ c a
  case' succ.true.true => cases cb : covZ c b
  case' succ.false.true => cases cb : covZ c b
  case' succ.true.true.true => have cx := hl ca cb
  case' succ.false.true.true => have cx := hl ca cb
  all_goals clear hl
  all_goals obtain ⟨Y, hy⟩ : ∃ Y, joinZ b c = Y := ⟨_, rfl⟩
  case' succ.false.false => by_cases hY : Y = 0
  case' succ.true.false => by_cases hY : Y = 0
  case' succ.false.true.false => by_cases hY : Y = 0
  case' succ.true.true.false => by_cases hY : Y = 0
  case' succ.false.true.true => by_cases hY : Y = 0
  case' succ.true.true.true => by_cases hY : Y = 0
  all_goals try (rw [hy] at h3; replace h3 := h3 hY; have hY2 : ((Y : Int) == 0) = false := by simpa using hY)
  all_goals try (subst hY; clear h3)
  all_goals (
  go_enter Tryd.func4, Tryd.ntmps4
  go_wp2_with fail
  refine (awake_any w ht).mono ?_
  rintro e w' ⟨rfl, kq, rfl⟩
  have T : Hid (Tabs (w.drewN kq)) := ht
  have B := Lib.hid (blN (Below.refl w.heap.size w) kq)
  clear ht
  generalize w.drewN kq = w1 at *
  repeat (go_wp2_with fail; first | (refine (Good_any _ _).mono ?_; rintro e w' ⟨rfl, rfl⟩) | (refine (refGood_any _ _).mono ?_; rintro e w' ⟨rfl, rfl⟩) | (refine (Goes_any _ _ _ ?_).mono ?_; exact T.out; rintro e w' ⟨rfl, rfl⟩) | (refine (Covers_any _ _ _ ?_).mono ?_; exact T.out; rintro e w' ⟨rfl, rfl⟩) | (refine (Join_any _ _ _ ?_).mono ?_; exact T.out; rintro e w' ⟨rfl, kq, rfl⟩))
  go_wp2_with fail
  go_returns
  refine ⟨?_, by first | exact B.out | exact blN B.out _⟩
  first | rfl | (simp [*]; done))
end Go.Proofs.YtcbpiipnmgnepaaDoor.Md
