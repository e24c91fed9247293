/- The law's own: great, Same, awake. -/
import Derived.Test.YtciamgggblajoaaDoorNtU
import Derived.Test.YtciamgggblajoaaDoorNtY
namespace Go.Proofs.YtciamgggblajoaaDoor.Nt
open Go.ChangeShapes Go.WideShapes Go.ChangeAt Go.RowKit Go.PlainAid Aid Cr
set_option linter.unusedVariables false
set_option linter.unusedSimpArgs false
def SomeBool (e : Ending) : Prop := ∃ b, e = .returned (.bool b)
set_option maxRecDepth 100000 in
set_option maxHeartbeats 4000000 in
theorem great_any (r : Rec) (v : Value) (w : World) (hv : RecAt w v r) :
    Calls Tryd.prog 9 #[v] w fun e w' => SomeBool e ∧ Below w.heap.size w w' := by
  obtain ⟨p, o, d, rfl, hp, ho, hd⟩ := hv
  obtain ⟨A1, m1, rfl⟩ := hp.slice
  obtain ⟨A2, m2, rfl⟩ := ho.slice
  obtain ⟨A3, m3, rfl⟩ := hd.slice
  have hm1 := hp.len.2
  have hm2 := ho.len.2
  have hm3 := hd.len.2
  unfold maxLen at hm1 hm2 hm3
  have HP := Lib.hid hp
  have S := Lib.hid ((Own.none w).alloc (recCells r (.slice A1 r.pages.length m1) (.slice A2 r.opn.length m2) (.slice A3 r.dty.length m3)) 28).left
  clear hp ho hd
  unfold recCells at *
  generalize ofL r.und.key = k1 at *
  generalize ofL r.und.val = k2 at *
  go_enter Tryd.func9, Tryd.ntmps9
  go_upto_region 1 with fail
  obtain ⟨g, hgz⟩ : ∃ g, g = w.heap.size := ⟨_, rfl⟩
  rw [← hgz] at S ⊢
  clear hgz
  generalize w.alloc _ = w1 at *
  obtain ⟨⟨c0, c1, c2, c3, c4, c5, c6, c7, c8, c9, c10⟩, -⟩ := eleven (S.out.has (has_blk _ _ _))
  by_cases h1 : 12 < r.pages.length
  · go_wp2_with fail
    go_returns
    exact ⟨⟨_, rfl⟩, S.out.bel⟩
  by_cases h2 : 20 < r.opn.length
  · go_wp2_with fail
    go_returns
    exact ⟨⟨_, rfl⟩, S.out.bel⟩
  by_cases h3 : 300 < r.dty.length
  · go_wp2_with fail
    go_returns
    exact ⟨⟨_, rfl⟩, S.out.bel⟩
  by_cases h4 : 300 < k1.size
  · go_wp2_with fail
    go_returns
    exact ⟨⟨_, rfl⟩, S.out.bel⟩
  by_cases h5 : 300 < k2.size
  · go_wp2_with fail
    go_returns
    exact ⟨⟨_, rfl⟩, S.out.bel⟩
  go_wp2_with fail
  go_loop [3] (fun i => ∃ k : Nat, k ≤ r.pages.length ∧ i = .int .i64 k) (fun i => r.pages.length - (intOf i).toNat)
  case atStart => exact ⟨0, Nat.zero_le _, rfl⟩
  case round =>
    obtain ⟨k, hk, rfl⟩ := hrel
    by_cases hlt : k < r.pages.length
    · obtain ⟨x, hx⟩ : ∃ x, r.pages[k]? = some x := ⟨r.pages[k]'(by omega), List.getElem?_eq_getElem _⟩
      obtain ⟨b, ob, rfl, hbl, e0, e1⟩ := (HP.out.keep S.out.bel).at hx
      unfold fImg at e0 e1
      dsimp only at e0 e1
      generalize ofL x.2 = y at *
      clear hx
      by_cases h6 : 300 < y.size
      · go_wp2_with fail
        go_returns
        exact ⟨⟨_, rfl⟩, S.out.bel⟩
      · go_wp2_with fail
        go_round
        case rel => exact ⟨k + 1, by omega, by go_num⟩
        case measure => simp [intOf]; omega
    · obtain rfl : k = r.pages.length := by omega
      go_wp2_with fail
      go_returns
      exact ⟨⟨_, rfl⟩, S.out.bel⟩
end Go.Proofs.YtciamgggblajoaaDoor.Nt
