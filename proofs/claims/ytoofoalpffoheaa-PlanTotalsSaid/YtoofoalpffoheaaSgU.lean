import Derived.Test.YtoofoalpffoheaaSgT
namespace Go.Proofs.Ytoofoalpffoheaa.Sg
open Go.ChangeShapes Go.WideShapes Go.ChangeAt Go.RowKit Go.PlainAid
set_option linter.unusedVariables false

theorem ba_ext {a b : ByteArray} (h : a.data.toList = b.data.toList) : a = b := ByteArray.ext (Array.toList_inj.1 h)
theorem rowB_cons (v : V) (l : List V) : rowB (v :: l) = codeB v ++ rowB l := rfl
theorem rowB_append (a b : List V) : rowB (a ++ b) = rowB a ++ rowB b := by unfold rowB; rw [List.flatMap_append]
theorem rowB_chunk (l : List V) (k : Nat) (v : V) (h : l[k]? = some v) : ((rowB l).drop (9 * k)).take 9 = codeB v := by
  induction l generalizing k with
  | nil => cases h
  | cons a l ih =>
    cases k with
    | zero =>
      cases h
      rw [rowB_cons, Nat.mul_zero, List.drop_zero, List.take_append_of_le_length (by rw [codeB_length]; exact Nat.le_refl _), List.take_of_length_le (by rw [codeB_length]; exact Nat.le_refl _)]
    | succ k =>
      rw [rowB_cons, List.drop_append, codeB_length, List.drop_of_length_le (by rw [codeB_length]; omega), List.nil_append, show 9 * (k + 1) - 9 = 9 * k from by omega]
      exact ih k h
theorem rd_row (l : List V) (hg : ∀ v ∈ l, goodV v = true) (hi : ∀ v ∈ l, inV v) (k : Nat) (hk : k ≤ l.length) : rdK ⟨(rowB l).toArray⟩ k = some (l.take k) := by
  induction k with
  | zero => rfl
  | succ k ih =>
    have hv : l[k]? = some l[k] := List.getElem?_eq_getElem (by omega)
    have hm : l[k] ∈ l := List.getElem_mem _
    have e : (⟨(rowB l).toArray⟩ : ByteArray).extract (9 * k) (9 * k + 9) = codeS l[k].1 l[k].2.1 l[k].2.2 := by
      apply ba_ext
      rw [Lib.extract_data, show 9 * k + 9 - 9 * k = 9 from by omega]
      exact rowB_chunk l k _ hv
    have h2 : rd ((⟨(rowB l).toArray⟩ : ByteArray).extract (9 * k) (9 * k + 9)) = some l[k] := by
      rw [e]; exact rd_code _ _ _ (hg _ hm) (hi _ hm).1 (hi _ hm).2.1
    rw [rdK_step (ih (by omega)) h2, List.take_add_one, hv]; rfl
theorem rdRow_row (l : List V) (hg : ∀ v ∈ l, goodV v = true) (hi : ∀ v ∈ l, inV v) (h4 : l.length ≤ 4) : rdRow ⟨(rowB l).toArray⟩ = some l := by
  have hs : (⟨(rowB l).toArray⟩ : ByteArray).size = 9 * l.length := by rw [Lib.size_eq]; exact rowB_length l
  unfold rdRow
  rw [if_pos ⟨by omega, by omega⟩, hs, show 9 * l.length / 9 = l.length from by omega, rd_row l hg hi _ (Nat.le_refl _), List.take_of_length_le (Nat.le_refl _)]
theorem good_size {v : V} (h : goodV v = true) : v.2.2.size ≤ 7 := by
  have := of_decide_eq_true h
  omega
theorem row_rd (s : ByteArray) (k : Nat) (m : List V) (h : rdK s k = some m) : (∀ v ∈ m, goodV v = true) ∧ (∀ v ∈ m, inV v) ∧ rowB m = s.data.toList.take (9 * k) := by
  induction k generalizing m with
  | zero => cases h; exact ⟨by simp, by simp, rfl⟩
  | succ k ih =>
    have h' : (match rdK s k, rd (s.extract (9 * k) (9 * k + 9)) with | some l, some v => some (l ++ [v]) | _, _ => none) = some m := h
    cases h1 : rdK s k with
    | none => rw [h1] at h'; cases h'
    | some l' =>
      cases h2 : rd (s.extract (9 * k) (9 * k + 9)) with
      | none => rw [h1, h2] at h'; cases h'
      | some v =>
        rw [h1, h2] at h'; cases h'
        obtain ⟨k0, n0, s0⟩ := v
        obtain ⟨g1, g2, g3, g4⟩ := code_rd _ _ _ _ h2
        obtain ⟨i1, i2, i3⟩ := ih l' h1
        have hz : goodV (k0, n0, s0) = true := g1
        refine ⟨?_, ?_, ?_⟩
        · intro v hv
          rcases List.mem_append.1 hv with hv | hv
          · exact i1 v hv
          · rw [List.mem_singleton.1 hv]; exact hz
        · intro v hv
          rcases List.mem_append.1 hv with hv | hv
          · exact i2 v hv
          · rw [List.mem_singleton.1 hv]; exact ⟨g2, g3, Nat.le_trans (good_size hz) (by decide)⟩
        · rw [rowB_snoc, i3]
          have e : codeB (k0, n0, s0) = (s.data.toList.drop (9 * k)).take 9 := by
            show (codeS k0 n0 s0).data.toList = _
            rw [g4, Lib.extract_data, show 9 * k + 9 - 9 * k = 9 from by omega]
          rw [e, show 9 * (k + 1) = 9 * k + 9 from by omega, ← List.take_add]
theorem rdRow_back (s : ByteArray) (m : List V) (h : rdRow s = some m) : (∀ v ∈ m, goodV v = true) ∧ (∀ v ∈ m, inV v) ∧ m.length ≤ 4 ∧ (⟨(rowB m).toArray⟩ : ByteArray) = s := by
  unfold rdRow at h
  by_cases hc : s.size % 9 = 0 ∧ s.size ≤ 36
  · rw [if_pos hc] at h
    obtain ⟨h1, h2, h3⟩ := row_rd s _ m h
    refine ⟨h1, h2, by rw [rdK_length h]; omega, ?_⟩
    apply ba_ext
    show rowB m = _
    rw [h3, List.take_of_length_le (by rw [← Lib.size_eq]; omega)]
  · rw [if_neg hc] at h; cases h

end Go.Proofs.Ytoofoalpffoheaa.Sg
