/- As many names as there may be locks: plain. -/
import Derived.Test.YtikdjgholjealaaDoorLkRp
namespace Go.Proofs.YtikdjgholjealaaDoor.Lk
open Go.ChangeShapes Go.WideShapes Go.ChangeAt Go.RowKit Go.PlainAid Aid Md
set_option linter.unusedVariables false
set_option linter.unusedSimpArgs false
def nmF (i : Nat) : By := [UInt8.ofNat (97 + i % 20), UInt8.ofNat (97 + i / 20)]
abbrev nw : By := [110, 101, 119]
theorem byte_inj {a b : Nat} (ha : a < 256) (hb : b < 256) (h : UInt8.ofNat a = UInt8.ofNat b) : a = b := by
  have := congrArg UInt8.toNat h
  rw [UInt8.toNat_ofNat', UInt8.toNat_ofNat', Nat.mod_eq_of_lt ha, Nat.mod_eq_of_lt hb] at this
  exact this
theorem nmF_inj {i j : Nat} (hi : i < 300) (hj : j < 300) (h : nmF i = nmF j) : i = j := by
  unfold nmF at h
  simp only [List.cons.injEq, and_true] at h
  have h1 := byte_inj (by omega) (by omega) h.1
  have h2 := byte_inj (by omega) (by omega) h.2
  omega
theorem nmF_new (i : Nat) : nmF i ≠ nw := fun h => by
  have := congrArg List.length h
  simp [nmF] at this
inductive FuS : Nat → List Hol → Prop
  | nil : FuS 0 []
  | cons {i H} (nb : Nat) (h : FuS i H) : FuS (i + 1) ((nmF i, nb, [(((i % 5 : Nat) : Int), (1 : Int))]) :: H)
theorem FuS.cnt {i : Nat} {H : List Hol} (h : FuS i H) : cntH H = i := by
  induction h with
  | nil => rfl
  | cons nb h ih =>
    unfold cntH at ih ⊢
    rw [List.map_cons, List.sum_cons, ih]
    show 1 + _ = _
    omega
theorem holL_cons (x : Hol) (H : List Hol) (nm : By) : holL (x :: H) nm = if x.1 = nm then some x else holL H nm := find_cons (fun x : Hol => x.1) _ _ _
theorem FuS.at {i : Nat} {H : List Hol} (h : FuS i H) (hi : i ≤ 300) (j : Nat) (hj : j < i) : ∃ nb, holL H (nmF j) = some (nmF j, nb, [(((j % 5 : Nat) : Int), (1 : Int))]) := by
  induction h with
  | nil => omega
  | @cons i H nb h ih =>
    rw [holL_cons]
    by_cases e : j = i
    · subst e; exact ⟨nb, if_pos rfl⟩
    · rw [if_neg (fun e2 => e (nmF_inj (by omega) (by omega) e2).symm)]
      exact ih (by omega) (by omega)
theorem FuS.off {i : Nat} {H : List Hol} (h : FuS i H) (hi : i ≤ 300) (nm : By) (hn : ∀ j, j < i → nmF j ≠ nm) : holL H nm = none := by
  induction h with
  | nil => rfl
  | @cons i H nb h ih =>
    rw [holL_cons, if_neg (hn i (by omega))]
    exact ih (by omega) (fun j hj => hn j (by omega))
theorem fu_ask {i : Nat} {c : Int} {H H' : List Hol} {L' : List Lin} {W' : List Wan} (h : FuS i H) (hi : i < 300) (t : AskT H [] [] ((i % 5 : Nat) : Int) (nmF i) 1 c H' L' W') : c = 0 ∧ L' = [] ∧ W' = [] ∧ FuS (i + 1) H' := by
  have hn := h.off (by omega) (nmF i) (fun j hj e => by have := nmF_inj (by omega) hi e; omega)
  have hm : md H ((i % 5 : Nat) : Int) (nmF i) = 0 := by unfold md; rw [hn]
  have he : holE H (nmF i) = [] := by unfold holE; rw [hn]
  have e : joinedZ 0 1 = 1 := by decide +kernel
  have hc : cnt H [] = i := by unfold cnt; rw [h.cnt]; simp
  cases t with
  | arg h => rw [hm, e] at h; rcases h with h | h <;> cases h
  | same hw hj hs => rw [hm, e] at hs; cases hs
  | full hw hj hm2 hc2 => rw [hc] at hc2; omega
  | busy hw hj hs hm2 hf v =>
    refine absurd ?_ hf
    unfold blkL
    rw [he, hm]
    rfl
  | hold hw hj hs hm2 hf nb =>
    rw [hm, e]
    refine ⟨rfl, rfl, rfl, ?_⟩
    unfold setH
    rw [hn]
    exact .cons nb h
theorem fu_ask2 {k : Nat} {c : Int} {H H' : List Hol} {L' : List Lin} {W' : List Wan} (h : FuS 300 H) (ha : Apart H) (hk : k < 300) (t : AskT H [] [] ((k % 5 : Nat) : Int) (nmF k) 2 c H' L' W') : c = 0 ∧ L' = [] ∧ W' = [] ∧ cntH H' = 300 ∧ holL H' nw = none := by
  obtain ⟨nb, hx⟩ := h.at (by omega) k hk
  have he : holE H (nmF k) = [(((k % 5 : Nat) : Int), (1 : Int))] := by unfold holE; rw [hx]
  have hm : md H ((k % 5 : Nat) : Int) (nmF k) = 1 := by
    rw [md_holE, he]
    unfold mdL
    rw [List.find?_cons, decide_eq_true rfl]
  have e : joinedZ 1 2 = 2 := by decide +kernel
  cases t with
  | arg h => rw [hm, e] at h; rcases h with h | h <;> cases h
  | same hw hj hs => rw [hm, e] at hs; cases hs
  | full hw hj hm2 hc2 => rw [hm] at hm2; cases hm2
  | busy hw hj hs hm2 hf v =>
    refine absurd ?_ hf
    unfold blkL
    rw [he, hm]
    unfold blkH
    rw [List.filter_cons, decide_eq_true rfl]
    rfl
  | hold hw hj hs hm2 hf nb2 =>
    rw [hm, e]
    obtain ⟨hp, -⟩ := hol_perm ha hx
    have h1 := cntH_perm hp
    rw [h.cnt] at h1
    have h2 : cntH ((nmF k, nb, [(((k % 5 : Nat) : Int), (1 : Int))]) :: offH H (nmF k)) = 1 + cntH (offH H (nmF k)) := by
      unfold cntH
      rw [List.map_cons, List.sum_cons]
      rfl
    refine ⟨rfl, rfl, rfl, ?_, ?_⟩
    · unfold setH
      rw [hx]
      show cntH ((nmF k, nb, setL [(((k % 5 : Nat) : Int), (1 : Int))] ((k % 5 : Nat) : Int) 2) :: offH H (nmF k)) = 300
      have h3 : cntH ((nmF k, nb, setL [(((k % 5 : Nat) : Int), (1 : Int))] ((k % 5 : Nat) : Int) 2) :: offH H (nmF k)) = 1 + cntH (offH H (nmF k)) := by
        unfold cntH
        rw [List.map_cons, List.sum_cons]
        unfold setL without
        rw [List.filter_cons, decide_eq_true rfl]
        rfl
      omega
    · obtain ⟨b, hb⟩ := holL_set H ((k % 5 : Nat) : Int) 2 (nmF k) nw nb2
      rw [hb, if_neg (fun e => nmF_new k e.symm)]
      exact h.off (by omega) nw (fun j _ => nmF_new j)
theorem fu_ask3 {id c : Int} {H H' : List Hol} {L' : List Lin} {W' : List Wan} (hc : cntH H = 300) (hn : holL H nw = none) (t : AskT H [] [] id nw 3 c H' L' W') : c = 10 ∧ L' = [] ∧ W' = [] ∧ H' = H := by
  have hm : md H id nw = 0 := by unfold md; rw [hn]
  have e : joinedZ 0 3 = 3 := by decide +kernel
  have hc2 : cnt H [] = 300 := by unfold cnt; rw [hc]; rfl
  cases t with
  | arg h => rw [hm, e] at h; rcases h with h | h <;> cases h
  | same hw hj hs => rw [hm, e] at hs; cases hs
  | full hw hj hm2 hc2 => exact ⟨rfl, rfl, rfl, rfl⟩
  | busy hw hj hs hm2 hf v => rcases hm2 with h | h; exact absurd hm h; omega
  | hold hw hj hs hm2 hf nb => rcases hm2 with h | h; exact absurd hm h; omega
theorem fu_ask4 {id c : Int} {H H' : List Hol} {L' : List Lin} {W' : List Wan} (hn : holL H nw = none) (t : AskT H [] [] id nw 0 c H' L' W') : c = 1 := by
  have hm : md H id nw = 0 := by unfold md; rw [hn]
  have e : joinedZ 0 0 = 0 := by decide +kernel
  cases t with
  | arg h => rfl
  | same hw hj hs => rw [hm] at hj; exact absurd e hj
  | full hw hj hm2 hc2 => rw [hm] at hj; exact absurd e hj
  | busy hw hj hs hm2 hf v => rw [hm] at hj; exact absurd e hj
  | hold hw hj hs hm2 hf nb => rw [hm] at hj; exact absurd e hj
end Go.Proofs.YtikdjgholjealaaDoor.Lk
