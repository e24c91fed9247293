import Derived.Test.YtciodlegkoeipaaDoorSgS
namespace Go.Proofs.YtciodlegkoeipaaDoor.Sg
open Go.ChangeShapes Go.WideShapes Go.ChangeAt Go.RowKit Go.PlainAid
set_option linter.unusedVariables false

theorem VReads_own {w : World} {base : Nat} {v : Value} {l : List V} (h : w.ownsRow base 23 3 v l.length (cellsV l)) (hv : v = .slice none 0 0 ↔ l = []) :
    ∃ A c, v = .slice A l.length c ∧ VReads w A l := by
  by_cases hl : l = []
  · subst hl
    exact ⟨none, 0, hv.2 rfl, fun h => absurd rfl h⟩
  · obtain ⟨g, c, rfl, hg1, hg2, hg3, hg4⟩ := own_form h (fun e => hl (hv.1 e))
    refine ⟨_, c, rfl, fun _ => ⟨g, 0, rfl, hg2, fun i v hv => ?_⟩⟩
    have hi : i < l.length := (List.getElem?_eq_some_iff.1 hv).1
    have hc : ∀ (l : List V) (i : Nat) (v : V), l[i]? = some v → (cellsV l)[i * 3]? = some (.int .i64 v.1) ∧ (cellsV l)[i * 3 + 1]? = some (.int .i64 v.2.1) ∧ (cellsV l)[i * 3 + 2]? = some (.string v.2.2) := by
      intro l
      induction l with
      | nil => intro i v hv; cases hv
      | cons a l ih =>
        intro i v hv
        cases i with
        | zero => cases hv; exact ⟨rfl, rfl, rfl⟩
        | succ i =>
          have := ih i v hv
          have e : cellsV (a :: l) = [Value.int .i64 a.1, .int .i64 a.2.1, .string a.2.2] ++ cellsV l := rfl
          rw [e]
          refine ⟨?_, ?_, ?_⟩
          · rw [List.getElem?_append_right (by simp; omega)]; simpa [Nat.succ_mul] using this.1
          · rw [List.getElem?_append_right (by simp; omega)]
            rw [show (i + 1) * 3 + 1 - [Value.int .i64 a.1, .int .i64 a.2.1, .string a.2.2].length = i * 3 + 1 from by simp; omega]; exact this.2.1
          · rw [List.getElem?_append_right (by simp; omega)]
            rw [show (i + 1) * 3 + 2 - [Value.int .i64 a.1, .int .i64 a.2.1, .string a.2.2].length = i * 3 + 2 from by simp; omega]; exact this.2.2
    obtain ⟨h1, h2, h3⟩ := hc l i v hv
    refine ⟨?_, ?_, ?_⟩
    · rw [Nat.zero_add, h.cellAt _ (by omega)]; exact h1
    · rw [Nat.zero_add, h.cellAt _ (by omega)]; exact h2
    · rw [Nat.zero_add, h.cellAt _ (by omega)]; exact h3

set_option maxHeartbeats 1000000 in
theorem Same_eq (A B : Option Addr) (ca cb : Nat) (l : List V) (w : World) (hl : l.length ≤ maxLen) (ha : VReads w A l) (hb : VReads w B l) :
    Calls Tryd.prog 20 #[.slice A l.length ca, .slice B l.length cb] w fun e w' => e = .returned (.bool true) ∧ Below w.heap.size w w' := by
  unfold maxLen at hl
  have HA := Lib.hid ha
  have HB := Lib.hid hb
  generalize hn : l.length = n at *
  have HN := Lib.hid hn
  clear ha hb hn
  go_enter Tryd.func20, Tryd.ntmps20
  go_wp2_with fail
  go_loopw [5] (fun i wr => ∃ (k : Nat), k ≤ n ∧ i = .int .i64 k ∧ Hid (Below w.heap.size w wr)) (fun i _ => n - (intOf i).toNat)
  case atStart => exact ⟨0, by omega, rfl, Below.refl _ _⟩
  case round =>
    obtain ⟨k, hk, rfl, hbl⟩ := hrel
    by_cases hlt : k < n
    · have hv : l[k]? = some (l[k]'(by have := HN.out; omega)) := List.getElem?_eq_getElem _
      generalize l[k]'(by have := HN.out; omega) = v at *
      have hne : l ≠ [] := by intro e; rw [e] at hv; cases hv
      obtain ⟨b, off, rfl, -, hca⟩ := (HA.out.keep hbl.out) hne
      obtain ⟨b', off', rfl, -, hcb⟩ := (HB.out.keep hbl.out) hne
      obtain ⟨x0, x1, x2⟩ := hca k v hv
      obtain ⟨y0, y1, y2⟩ := hcb k v hv
      have HV := Lib.hid hv
      obtain ⟨k0, n0, s0⟩ := v
      have kk : (0 : Int) ≤ (k : Int) := by omega
      have kt : (k : Int).toNat = k := by simp
      clear hca hcb hv hne
      go_wp2
      go_quiet (fail)
      go_wp2
      go_roundw
      case rel => exact ⟨k + 1, by omega, by go_num, blN hbl.out _⟩
      case measure => simp [intOf]; omega
    · obtain rfl : k = n := by omega
      go_wp2
      go_returns
      exact ⟨rfl, hbl.out⟩
end Go.Proofs.YtciodlegkoeipaaDoor.Sg
