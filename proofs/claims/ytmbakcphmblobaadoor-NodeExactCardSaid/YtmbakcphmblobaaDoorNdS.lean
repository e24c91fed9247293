/- What great leaves; the document's place of a key; Same. -/
import Derived.Test.YtmbakcphmblobaaDoorNdT
import Derived.Test.YtmbakcphmblobaaDoorNdH
namespace Go.Proofs.YtmbakcphmblobaaDoor.Nd
open Go.ChangeShapes Go.WideShapes Go.ChangeAt Go.RowKit Go.PlainAid Aid Cr Nt
set_option linter.unusedVariables false
set_option linter.unusedSimpArgs false
/-- No more than is asked. -/
structure Small (n : Nod) : Prop where
  ll : n.list.length ≤ 120
  hi : n.high.length ≤ 100
  ky : ∀ e, e ∈ n.list → e.key.length ≤ 100 ∧ e.val.length ≤ 200
set_option maxRecDepth 100000 in
set_option maxHeartbeats 4000000 in
theorem great_small (n : Nod) (v : Value) (w : World) (hv : NodAt w v n) :
    Calls Tryd.prog 26 #[v] w fun e w' => (e = .returned (.bool true) ∨ (e = .returned (.bool false) ∧ Small n)) ∧ Below w.heap.size w w' := by
  obtain ⟨p, rfl, hp⟩ := hv
  obtain ⟨A1, m1, rfl⟩ := hp.slice
  have hm1 := hp.len.2
  unfold maxLen at hm1
  have HP := Lib.hid hp
  have S := Lib.hid ((Own.none w).alloc (nodCells n (.slice A1 n.list.length m1)) 64).left
  clear hp
  unfold nodCells at *
  have hih : (ofL n.high).size = n.high.length := rfl
  have HIH := Lib.hid hih
  generalize ofL n.high = hi at *
  clear hih
  go_enter Tryd.func26, Tryd.ntmps26
  go_upto_region 1 with fail
  obtain ⟨g, hgz⟩ : ∃ g, g = w.heap.size := ⟨_, rfl⟩
  rw [← hgz] at S ⊢
  clear hgz
  generalize w.alloc _ = w1 at *
  obtain ⟨-, -, -, -, c4, -, c6⟩ := nod_cells (S.out.has (has_blk _ _ _))
  by_cases h1 : 120 < n.list.length
  · go_wp2_with fail
    go_returns
    exact ⟨Or.inl rfl, S.out.bel⟩
  by_cases h2 : 100 < hi.size
  · go_wp2_with fail
    go_returns
    exact ⟨Or.inl rfl, S.out.bel⟩
  have H1 := Lib.hid h1
  have H2 := Lib.hid h2
  go_wp2_with fail
  go_loop [3] (fun i => ∃ k : Nat, k ≤ n.list.length ∧ i = .int .i64 k ∧ Hid (∀ e, e ∈ n.list.take k → e.key.length ≤ 100 ∧ e.val.length ≤ 200)) (fun i => n.list.length - (intOf i).toNat)
  case atStart => exact ⟨0, Nat.zero_le _, rfl, Lib.hid (fun e he => by cases he)⟩
  case round =>
    obtain ⟨k, hk, rfl, hQ⟩ := hrel
    by_cases hlt : k < n.list.length
    · obtain ⟨x, hx⟩ : ∃ x, n.list[k]? = some x := ⟨n.list[k]'(by omega), List.getElem?_eq_getElem _⟩
      obtain ⟨b, ob, rfl, hbl, e0, e1, -⟩ := (HP.out.keep S.out.bel).at hx
      have hst : x.key.length ≤ 100 → x.val.length ≤ 200 → ∀ e, e ∈ n.list.take (k + 1) → e.key.length ≤ 100 ∧ e.val.length ≤ 200 := fun a b e he => by
        rw [List.take_add_one, hx] at he
        rcases List.mem_append.1 he with h | h
        · exact hQ.out e h
        · simp at h; subst h; exact ⟨a, b⟩
      have HST := Lib.hid hst
      have hy : (ofL x.key).size = x.key.length := rfl
      have hz : (ofL x.val).size = x.val.length := rfl
      have HY := Lib.hid hy
      have HZ := Lib.hid hz
      clear hst hy hz
      generalize ofL x.key = y at *
      generalize ofL x.val = z at *
      clear hx
      by_cases h6 : 100 < y.size
      · go_wp2_with fail
        go_returns
        exact ⟨Or.inl rfl, S.out.bel⟩
      by_cases h7 : 200 < z.size
      · go_wp2_with fail
        go_returns
        exact ⟨Or.inl rfl, S.out.bel⟩
      · have hnext := HST.out (by have := HY.out; omega) (by have := HZ.out; omega)
        have HN := Lib.hid hnext
        clear hnext
        go_wp2_with fail
        go_round
        case rel => exact ⟨k + 1, by omega, by go_num, HN⟩
        case measure => simp [intOf]; omega
    · obtain rfl : k = n.list.length := by omega
      go_wp2_with fail
      go_returns
      exact ⟨Or.inr ⟨rfl, by have := H1.out; omega, by have := H2.out; have := HIH.out; omega, by have := hQ.out; rwa [List.take_length] at this⟩, S.out.bel⟩
end Go.Proofs.YtmbakcphmblobaaDoor.Nd
