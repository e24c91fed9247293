/- The document's nodes: how many bytes; a flag's byte. -/
import Derived.Test.YthoaangmekkcmaaNdR
import Derived.Deep.CutBlock
namespace Go.Proofs.Ythoaangmekkcmaa.Nd
open Go.ChangeShapes Go.WideShapes Go.ChangeAt Go.RowKit Go.PlainAid Aid Cr Nt
set_option linter.unusedVariables false
set_option linter.unusedSimpArgs false
set_option maxRecDepth 100000 in
set_option maxHeartbeats 4000000 in
theorem refSize_any (n : Nod) (v : Value) (w : World) (hv : NodAt w v n) (hs : sizeN n < 4611686018427387904) :
    Calls Try.prog 37 #[v] w fun e w' => e = .returned (.int .i64 (sizeN n)) ∧ Below w.heap.size w w' := by
  obtain ⟨p, rfl, hp⟩ := hv
  obtain ⟨A1, m1, rfl⟩ := hp.slice
  have hm1 := hp.len.2
  unfold maxLen at hm1
  have S := Lib.hid ((Own.none w).alloc (nodCells n (.slice A1 n.list.length m1)) 52).left
  have HP := Lib.hid hp
  have HS := Lib.hid hs
  have HZ : Hid (∀ k, 20 + sizeL (n.list.take k) ≤ sizeN n) := Lib.hid (fun k => by have := sizeL_le n.list k; unfold sizeN; omega)
  clear hp hs
  unfold nodCells at *
  go_enter Try.func37, Try.ntmps37
  go_upto_region 1 with fail
  obtain ⟨g, hgz⟩ : ∃ g, g = w.heap.size := ⟨_, rfl⟩
  rw [← hgz] at S ⊢
  clear hgz
  generalize w.alloc _ = w1 at *
  obtain ⟨-, -, -, -, -, -, c6⟩ := nod_cells (S.out.has (has_blk _ _ _))
  go_wp2_with fail
  go_loop [3, 4] (fun s i => ∃ k : Nat, k ≤ n.list.length ∧ i = .int .i64 k ∧ s = .int .i64 ((20 + sizeL (n.list.take k) : Nat) : Int)) (fun _ i => n.list.length - (intOf i).toNat)
  case atStart => exact ⟨0, Nat.zero_le _, rfl, rfl⟩
  case round =>
    obtain ⟨k, hk, rfl, rfl⟩ := hrel
    by_cases hlt : k < n.list.length
    · obtain ⟨x, hx⟩ : ∃ x, n.list[k]? = some x := ⟨n.list[k]'(by omega), List.getElem?_eq_getElem _⟩
      obtain ⟨b, o, rfl, hbl, a0, a1, a2⟩ := (HP.out.keep S.out.bel).at hx
      have hst := sizeL_take n.list k x hx
      have h1 := HZ.out (k + 1)
      have h2 := HS.out
      rw [hst] at h1
      have HT := Lib.hid hst
      rw [← ofL_sz x.val] at h1
      have hb : Hid ((ofL x.val).size = x.val.length) := Lib.hid rfl
      generalize ofL x.val = y at *
      generalize ofL x.key = z at *
      clear hst hx
      go_wp2_with fail
      go_round
      case rel => exact ⟨k + 1, by omega, by go_num, by rw [HT.out, ← hb.out]; go_num⟩
      case measure => simp [intOf]; omega
    · obtain rfl : k = n.list.length := by omega
      rw [List.take_length]
      go_wp2_with fail
      go_returns
      exact ⟨rfl, S.out.bel⟩
end Go.Proofs.Ythoaangmekkcmaa.Nd
