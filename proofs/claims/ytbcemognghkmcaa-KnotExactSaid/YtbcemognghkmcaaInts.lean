/- Two rows of numbers, side by side. -/
import Derived.Test.YtbcemognghkmcaaSep
import Derived.Test.YtbcemognghkmcaaRow
import Derived.Test.YtbcemognghkmcaaRows
import Derived.Test.YtbcemognghkmcaaAc
namespace Go.Proofs.Ytbcemognghkmcaa.Aid
open Go.ChangeShapes Go.WideShapes Go.ChangeAt Go.RowKit Go.PlainAid
set_option linter.unusedVariables false
set_option linter.unusedSimpArgs false
/-- A slice's numbers. -/
def IntsAt (w : World) (A : Option Addr) (l : List Int) : Prop := l = [] ∨ ∃ b o, A = some ⟨b, o, none⟩ ∧ b < w.heap.size ∧ ∀ j x, l[j]? = some x → w.cell? ⟨b, o + j, none⟩ = some (.int .i64 x)
theorem IntsAt.keep {w w' : World} {A : Option Addr} {l : List Int} (h : IntsAt w A l) (hb : Below w.heap.size w w') : IntsAt w' A l := by
  rcases h with h | ⟨b, o, rfl, hl, hc⟩
  · exact Or.inl h
  · exact Or.inr ⟨b, o, rfl, Nat.lt_of_lt_of_le hl hb.size, fun j x hx => by rw [(bcell hb).1 _ _ hl]; exact hc j x hx⟩
theorem IntsAt.of_vec {w : World} {A : Option Addr} {c : Nat} {l : List Int} {T : TypeId} (h : Vec w T 1 (.slice A l.length c) l.length (l.map fun x => .int .i64 x)) : IntsAt w A l := by
  have hv := h
  rcases h.forms with ⟨he, hz⟩ | ⟨g, cap, he, -⟩
  · exact Or.inl (List.eq_nil_of_length_eq_zero hz)
  · cases he
    by_cases hz : l = []
    · exact Or.inl hz
    refine Or.inr ⟨g, 0, rfl, hv.lt (by exact rfl), fun j x hx => ?_⟩
    rw [Nat.zero_add]
    refine hv.cell ?_
    rw [List.getElem?_map, hx]; rfl
set_option maxRecDepth 100000 in
set_option maxHeartbeats 4000000 in
theorem Ints_any (A B : Option Addr) (c d : Nat) (la lb : List Int) (w : World) (ha : IntsAt w A la) (hb : IntsAt w B lb) (hn : la.length ≤ 1000000) (hm : lb.length ≤ 1000000) :
    Calls Try.prog 7 #[.slice A la.length c, .slice B lb.length d] w fun e w' => e = .returned (.bool (decide (la = lb))) ∧ Below w.heap.size w w' := by
  by_cases hl : la.length = lb.length
  · have HA := Lib.hid ha
    have HB := Lib.hid hb
    have B0 := Lib.hid (Below.refl w.heap.size w)
    have HL := Lib.hid hl
    rw [← hl]
    clear ha hb hl hm
    go_enter Try.func7, Try.ntmps7
    go_wp2_with fail
    go_loopw [5] (fun i wr => ∃ k : Nat, k ≤ la.length ∧ i = .int .i64 k ∧ Hid (la.take k = lb.take k) ∧ Hid (Below w.heap.size w wr)) (fun i _ => la.length - (intOf i).toNat)
    case atStart => exact ⟨0, Nat.zero_le _, rfl, Lib.hid rfl, B0⟩
    case round =>
      clear B0
      obtain ⟨k, hk, rfl, HE, B1⟩ := hrel
      by_cases hlt : k < la.length
      · obtain ⟨x, hx⟩ : ∃ x, la[k]? = some x := ⟨la[k]'(by omega), List.getElem?_eq_getElem _⟩
        obtain ⟨y, hy⟩ : ∃ y, lb[k]? = some y := ⟨lb[k]'(by rw [← HL.out]; omega), List.getElem?_eq_getElem _⟩
        have hx1 := (HA.out.keep B1.out)
        have hy1 := (HB.out.keep B1.out)
        rcases hx1 with e | ⟨b1, o1, rfl, -, hc1⟩
        · rw [e] at hlt; simp at hlt
        rcases hy1 with e | ⟨b2, o2, rfl, -, hc2⟩
        · rw [e] at hy; simp at hy
        have a0 := hc1 k x hx
        have d0 := hc2 k y hy
        have HX := Lib.hid hx
        have HY := Lib.hid hy
        clear hc1 hc2 hx hy
        by_cases hxy : x = y
        · have hb1 : (x != y) = false := by simp [hxy]
          have HXY := Lib.hid hxy
          clear hxy
          go_wp2_with fail
          go_quiet (fail)
          have B2 := Lib.hid (B1.out.trans (show Below w.heap.size wr (wr.drewN nq) from ⟨rfl, rfl, rfl, Nat.le_refl _, fun _ _ => rfl⟩))
          clear B1 a0 d0
          generalize wr.drewN nq = w2 at *
          go_wp2_with fail
          go_round
          case rel =>
            refine ⟨k + 1, by omega, by go_num, Lib.hid ?_, B2⟩
            rw [List.take_add_one, List.take_add_one, HE.out, HX.out, HY.out, HXY.out]
          case measure => simp only [intOf]; omega
        · have hb1 : (x != y) = true := by simp [hxy]
          have hne : la ≠ lb := fun e => by
            have := HX.out
            rw [e, HY.out] at this
            exact hxy (Option.some.inj this).symm
          clear hxy
          go_wp2_with fail
          go_quiet (fail)
          have B2 := Lib.hid (B1.out.trans (show Below w.heap.size wr (wr.drewN nq) from ⟨rfl, rfl, rfl, Nat.le_refl _, fun _ _ => rfl⟩))
          clear B1 a0 d0
          generalize wr.drewN nq = w2 at *
          go_wp2_with fail
          go_returns
          exact ⟨by rw [decide_eq_false hne]; rfl, B2.out⟩
      · obtain rfl : k = la.length := by omega
        have he : la = lb := by
          have := HE.out
          rw [List.take_length, HL.out, List.take_length] at this
          exact this
        go_wp2_with fail
        go_returns
        exact ⟨by rw [decide_eq_true he]; rfl, B1.out⟩
  · have hne : la ≠ lb := fun e => hl (by rw [e])
    have hb1 : ((la.length : Int) != (lb.length : Int)) = true := by simp; omega
    clear ha hb
    go_enter Try.func7, Try.ntmps7
    go_wp2_with fail
    go_returns
    exact ⟨by rw [decide_eq_false hne]; rfl, Below.refl _ _⟩
end Go.Proofs.Ytbcemognghkmcaa.Aid
