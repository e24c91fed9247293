/- Which errors the calls answer, whatever is on the shelf. -/
import Derived.Test.YtapdpdhibpblgaaBkAd
import Derived.Test.YtapdpdhibpblgaaBkQ
import Derived.Test.YtapdpdhibpblgaaBkX
import Derived.Test.YtapdpdhibpblgaaBkY
import Derived.Test.YtapdpdhibpblgaaBkR
namespace Go.Proofs.Ytapdpdhibpblgaa.Bk
open Go.ChangeShapes Go.WideShapes Go.ChangeAt Go.RowKit Go.PlainAid Aid Nt Nd Tr
set_option linter.unusedVariables false
set_option linter.unusedSimpArgs false
/-- The errors of a way. -/
def E3 (e : Nat) : Prop := e = 0 ∨ e = 1 ∨ e = 3
theorem vis_E3 (S : Sf) (l : Nat) (p : Int) : E3 (vis S l p).err := by
  cases l with
  | zero => exact Or.inr (Or.inr rfl)
  | succ l =>
    show E3 (match at_ S p with | none => no l 1 | some n => (⟨l, 0, p, n⟩ : Vi)).err
    cases at_ S p with
    | none => exact Or.inr (Or.inl rfl)
    | some n => exact Or.inl rfl
theorem rgt_E3 (S : Sf) (key : By) : ∀ (l : Nat) (p : Int) (n : Nod), E3 (rgt S key l p n).err
  | 0, p, n => by
    unfold rgt
    split
    · exact Or.inr (Or.inr rfl)
    · exact Or.inl rfl
  | l + 1, p, n => by
    unfold rgt
    split
    · split
      · exact Or.inr (Or.inl rfl)
      · exact rgt_E3 S key l _ _
    · exact Or.inl rfl
theorem blw_E3 (S : Sf) (l : Nat) (n : Nod) (i : Int) : E3 (blw S l n i).err := by
  unfold blw
  split
  · exact Or.inr (Or.inr rfl)
  · split
    · exact Or.inr (Or.inr rfl)
    · split
      · dsimp only
        split
        · split
          · exact vis_E3 S l _
          · exact Or.inr (Or.inr rfl)
        · exact vis_E3 S l _
      · exact Or.inr (Or.inr rfl)
theorem sk_E3 (S : Sf) (level : Int) (key : By) : ∀ (f : Nat) (v : Vi) (P : List (Int × Nod)), E3 v.err → E3 (sk S level key f v P).2.1
  | 0, v, P, h => Or.inr (Or.inr rfl)
  | f + 1, v, P, h => by
    unfold sk
    split
    · dsimp only
      split
      · split
        · exact Or.inl rfl
        · split
          · exact Or.inr (Or.inr rfl)
          · exact sk_E3 S level key f _ _ (blw_E3 ..)
      · exact rgt_E3 ..
    · exact h
theorem seek_E3 (S : Sf) (root level : Int) (key : By) : E3 (seek S 256 root level key).2.1 := sk_E3 S level key 300 _ _ (vis_E3 ..)
theorem so_err (S : Sf) (root level : Int) (key : By) : (so S root level key).err = (seek S 256 root level key).2.1 := by
  by_cases h : (seek S 256 root level key).2.1 = 0
  · obtain ⟨Q, p, n, e⟩ := sk_ok S level key 300 (vis S 256 root) [] h
    rw [so_ok h e, h]
  · rw [so_bad h]; rfl
section
variable (S : Sf) (root : Int) (key : By)
theorem bad_all (h : (seek S 256 root 0 key).2.1 ≠ 0) : (pagesR S root 0 key).length = 0 ∧ (getR S root key).1 = (seek S 256 root 0 key).2.1 ∧ (getR S root key).2.1 = false ∧ (∀ v g, (putR S root ⟨key, v, g⟩).1 = (seek S 256 root 0 key).2.1) ∧ (dropR S root key).1 = (seek S 256 root 0 key).2.1 ∧
    (∀ f0 f1, (splitR S root 0 key f0 f1).1 = (seek S 256 root 0 key).2.1) ∧ (shrR S root key).1 = (seek S 256 root 0 key).2.1 := by
  have hs := so_err S root 0 key
  have hn : ¬ (so S root 0 key).err = 0 := by rw [hs]; exact h
  refine ⟨?_, ?_, ?_, fun v g => ?_, ?_, fun f0 f1 => ?_, ?_⟩
  · unfold pagesR
    rw [show (seek S 256 root 0 key).2.2 = [] from sk_bad S 0 key 300 (vis S 256 root) [] h]; rfl
  · unfold getR; rw [if_neg hn, hs]
  · unfold getR; rw [if_neg hn]
  · unfold putR; rw [if_neg hn, hs]
  · unfold dropR; rw [if_neg hn, hs]
  · unfold splitR; rw [if_neg hn, hs]
  · unfold shrR; rw [if_neg h]
theorem ok_all (h : (seek S 256 root 0 key).2.1 = 0) : 0 < (pagesR S root 0 key).length ∧ (getR S root key).1 = 0 ∧ (∀ v g, (putR S root ⟨key, v, g⟩).1 = 0 ∨ (putR S root ⟨key, v, g⟩).1 = 12 ∨ (putR S root ⟨key, v, g⟩).1 = 1) ∧
    (((dropR S root key).1 = 0 ∧ (getR S root key).2.1 = true) ∨ ((dropR S root key).1 = 7 ∧ (getR S root key).2.1 = false)) ∧ (∀ f0 f1, (splitR S root 0 key f0 f1).1 = 0 ∨ (splitR S root 0 key f0 f1).1 = 1 ∨ (splitR S root 0 key f0 f1).1 = 5) ∧ (shrR S root key).1 ≠ 7 := by
  have hn : (so S root 0 key).err = 0 := by rw [so_err]; exact h
  refine ⟨?_, ?_, fun v g => ?_, ?_, fun f0 f1 => ?_, ?_⟩
  · obtain ⟨Q, p, n, e⟩ := sk_ok S 0 key 300 (vis S 256 root) [] h
    unfold pagesR
    rw [show (seek S 256 root 0 key).2.2 = Q ++ [(p, n)] from e]
    simp
  · unfold getR
    rw [if_pos hn]
    split
    · split <;> rfl
    · rfl
  · unfold putR
    rw [if_pos hn]
    split
    · split
      · exact Or.inl rfl
      · exact Or.inr (Or.inl rfl)
    · exact Or.inr (Or.inr rfl)
  · unfold dropR getR
    rw [if_pos hn, if_pos hn]
    by_cases hp : (plc (so S root 0 key).nd key).2 = true
    · rw [if_pos hp, if_pos hp]
      refine Or.inl ⟨rfl, ?_⟩
      split <;> rfl
    · rw [if_neg hp, if_neg hp]
      exact Or.inr ⟨rfl, rfl⟩
  · unfold splitR
    rw [if_pos hn]
    split
    · exact Or.inr (Or.inl rfl)
    · split
      · exact Or.inl rfl
      · split
        · exact Or.inr (Or.inr rfl)
        · exact Or.inl rfl
  · unfold shrR
    rw [if_pos h]
    unfold shr1
    split
    · unfold shr2
      split
      · exact (by decide : (13 : Nat) ≠ 7)
      · split
        · exact (by decide : (13 : Nat) ≠ 7)
        · split
          · exact (by decide : (13 : Nat) ≠ 7)
          · split
            · exact (by decide : (13 : Nat) ≠ 7)
            · split
              · split
                · exact (by decide : (13 : Nat) ≠ 7)
                · exact (by decide : (0 : Nat) ≠ 7)
              · rename_i e _ _ _
                have := blw_E3 S (seek S 256 root 0 key).1
                intro hc
                rcases this _ _ with x | x | x <;> (rw [x] at hc; cases hc)
    · exact (by decide : (13 : Nat) ≠ 7)
theorem hang_ne (lv page : Int) : (hangR S root lv key page).1 ≠ 7 := by
  unfold hangR
  split
  · split
    · exact (by decide : (0 : Nat) ≠ 7)
    · split
      · exact (by decide : (0 : Nat) ≠ 7)
      · exact (by decide : (12 : Nat) ≠ 7)
  · rw [so_err]
    intro hc
    rcases seek_E3 S root lv key with x | x | x <;> (rw [x] at hc; cases hc)
theorem vis_page : (vis S 256 root).err = if 0 ≤ root ∧ root < 256 then 0 else 1 := by
  show (match at_ S root with | none => no 255 1 | some n => (⟨255, 0, root, n⟩ : Vi)).err = _
  unfold at_
  by_cases h : 0 ≤ root ∧ root < 256
  · rw [if_pos h, if_pos h]
  · rw [if_neg h, if_neg h]; rfl
theorem seek_page (h : ¬ (0 ≤ root ∧ root < 256)) : (seek S 256 root 0 key).2.1 ≠ 0 := by
  have hv := vis_page S root
  rw [if_neg h] at hv
  unfold seek
  rw [show (300 : Nat) = 299 + 1 from rfl, sk, if_neg (by rw [hv]; decide)]
  show (vis S 256 root).err ≠ 0
  rw [hv]; decide
end
end Go.Proofs.Ytapdpdhibpblgaa.Bk
