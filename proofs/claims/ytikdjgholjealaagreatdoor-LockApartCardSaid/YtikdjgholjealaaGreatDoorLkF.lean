/- Where one stands in a line. -/
import Derived.Test.YtikdjgholjealaaGreatDoorLkE
import Derived.Test.YtikdjgholjealaaGreatDoorLkI
namespace Go.Proofs.YtikdjgholjealaaGreatDoor.Lk
open Go.ChangeShapes Go.WideShapes Go.ChangeAt Go.RowKit Go.PlainAid Aid Md
set_option linter.unusedVariables false
set_option linter.unusedSimpArgs false
/-- How many stand ahead of the first that is so. -/
def fx (p : Int → Bool) (l : List Int) : Nat := (l.takeWhile fun x => !p x).length
def fxI (p : Int → Bool) (l : List Int) : Int := if fx p l = l.length then -1 else (fx p l : Nat)
theorem fx_le (p : Int → Bool) (l : List Int) : fx p l ≤ l.length := by
  unfold fx
  induction l with
  | nil => exact Nat.le_refl _
  | cons a l ih =>
    rw [List.takeWhile_cons]
    split
    · simp only [List.length_cons]; omega
    · exact Nat.zero_le _
theorem fx_lo (p : Int → Bool) (l : List Int) (k : Nat) (hk : k < fx p l) (y : Int) (hy : l[k]? = some y) : p y = false := by
  unfold fx at hk
  induction l generalizing k with
  | nil => cases hy
  | cons a l ih =>
    rw [List.takeWhile_cons] at hk
    split at hk
    · rename_i ha
      cases k with
      | zero => cases hy; simpa using ha
      | succ k => exact ih k (by simpa using hk) (by simpa using hy)
    · simp at hk
theorem fx_at (p : Int → Bool) (l : List Int) (y : Int) (hy : l[fx p l]? = some y) : p y = true := by
  unfold fx at hy
  induction l with
  | nil => cases hy
  | cons a l ih =>
    rw [List.takeWhile_cons] at hy
    split at hy
    · exact ih (by simpa using hy)
    · rename_i ha
      cases hy
      simpa using ha
theorem nums_at (l : List Int) (k : Nat) (y : Int) (hy : l[k]? = some y) : (nums l)[k]? = some (.int .i64 y) := by
  unfold nums; rw [List.getElem?_map, hy]; rfl
set_option maxRecDepth 100000 in
set_option maxHeartbeats 2000000 in
theorem Index_any (v : Value) (l : List Int) (x : Int) (w : World) (hv : Vec w 3 1 v l.length (nums l)) (hn : l.length ≤ 1000000) :
    Calls Tryz.prog 32 #[v, .int .i64 x] w fun e w' => e = .returned (.int .i64 (fxI (fun y => decide (y = x)) l)) ∧ Below w.heap.size w w' := by
  obtain ⟨A, c, rfl⟩ := hv.slice
  have HV := Lib.hid hv
  have B0 : Hid (Below w.heap.size w w) := Lib.hid (Below.refl _ _)
  have hfz := fx_le (fun y => decide (y = x)) l
  have HA := Lib.hid (fx_at (fun y => decide (y = x)) l)
  have HL := Lib.hid (fx_lo (fun y => decide (y = x)) l)
  have HI : Hid (fxI (fun y => decide (y = x)) l = if fx (fun y => decide (y = x)) l = l.length then -1 else ((fx (fun y => decide (y = x)) l : Nat) : Int)) := Lib.hid rfl
  generalize fxI (fun y => decide (y = x)) l = R at *
  generalize fx (fun y => decide (y = x)) l = F at *
  clear hv
  go_enter Tryz.func32, Tryz.ntmps32
  go_wp2_with fail
  go_loopw [5, 8] (fun _ i wr => ∃ k : Nat, i = .int .i64 k ∧ k ≤ F ∧ Hid (Below w.heap.size w wr)) (fun _ i _ => l.length - (intOf i).toNat)
  case atStart => exact ⟨0, rfl, Nat.zero_le _, B0⟩
  case round =>
    clear B0
    obtain ⟨k, rfl, hk, hB⟩ := hrel
    by_cases hlt : k < l.length
    · obtain ⟨y, hy⟩ : ∃ y, l[k]? = some y := ⟨l[k]'hlt, List.getElem?_eq_getElem _⟩
      obtain ⟨b, rfl⟩ : ∃ b, A = some ⟨b, 0, none⟩ := by
        rcases HV.out.forms with ⟨-, hz⟩ | ⟨g, cap, he, -⟩
        · omega
        · cases he; exact ⟨_, rfl⟩
      have hv := HV.out.keepB hB.out
      have d0 : wr.cell? ⟨b, k, none⟩ = some (.int .i64 y) := hv.cell (j := k) (nums_at l k y hy)
      clear hv
      by_cases hkf : k = F
      · have h0 : ((x : Int) == y) = true := by
          rw [hkf] at hy
          have := HA.out y hy
          simp at this; simp [this]
        have hne : ¬ F = l.length := by omega
        have HR : Hid (R = (k : Nat)) := Lib.hid (by rw [HI.out, if_neg hne, hkf])
        clear hy hkf hne HI HA HL
        go_wp2_with fail
        go_returns
        exact ⟨by rw [HR.out]; rfl, hB.out⟩
      · have h0 : ((x : Int) == y) = false := by
          have := HL.out k (by omega) y hy
          simp at this; simp; omega
        clear hy
        go_wp2_with fail
        go_roundw
        case rel => exact ⟨k + 1, by go_num, by omega, hB⟩
        case measure => simp [intOf]; omega
    · have hkf : F = l.length := by omega
      have HR : Hid (R = -1) := Lib.hid (by rw [HI.out, if_pos hkf])
      go_wp2_with fail
      go_returns
      exact ⟨by rw [HR.out]; rfl, hB.out⟩
section
variable {bb h lb wt : Nat} {H : List Hol} {L : List Lin} {W : List Wan} {name : By}
set_option maxRecDepth 100000 in
theorem strg_any (o : Int) (g : Nat) (w : World) (k : Bk w bb h lb wt H L W) (hc : w.cell? ⟨g, 0, none⟩ = some (hV H name)) (ho : I64w o) :
    Calls Tryz.prog 37 #[.int .i64 o, .pointer (some ⟨g, 0, none⟩)] w fun e w' => e = .returned (.bool (decide (md H o name = 0))) ∧ Below w.heap.size w w' := by
  have e0 := k.look_i name o ho

  go_enter Tryz.func37, Tryz.ntmps37
  go_wp2_with fail
  go_returns
  exact ⟨rfl, Below.refl _ _⟩
set_option maxRecDepth 100000 in
set_option maxHeartbeats 2000000 in
theorem IndexF_any (v : Value) (l : List Int) (g : Nat) (w : World) (kb : Bk w bb h lb wt H L W) (hc : w.cell? ⟨g, 0, none⟩ = some (hV H name)) (hg : g < w.heap.size) (hl : ∀ o, o ∈ l → I64w o) (hv : Vec w 3 1 v l.length (nums l)) (hn : l.length ≤ 1000000) :
    Calls Tryz.prog 38 #[v, .func (.func 37) #[] #[.pointer (some ⟨g, 0, none⟩)]] w fun e w' => e = .returned (.int .i64 (fxI (fun y => decide (md H y name = 0)) l)) ∧ Below w.heap.size w w' := by
  obtain ⟨A, c, rfl⟩ := hv.slice
  have HV := Lib.hid hv
  have HP : Hid (∀ (o : Int) (w' : World), Below w.heap.size w w' → I64w o → Calls Tryz.prog 37 #[.int .i64 o, .pointer (some ⟨g, 0, none⟩)] w' fun e w'' => e = .returned (.bool (decide (md H o name = 0))) ∧ Below w'.heap.size w' w'') :=
    Lib.hid fun o w' hb ho => strg_any o g w' (kb.keepB hb) (by rw [(bcell hb).1 _ _ hg]; exact hc) ho
  have B0 : Hid (Below w.heap.size w w) := Lib.hid (Below.refl _ _)
  have hfz := fx_le (fun y => decide (md H y name = 0)) l
  have HA := Lib.hid (fx_at (fun y => decide (md H y name = 0)) l)
  have HL := Lib.hid (fx_lo (fun y => decide (md H y name = 0)) l)
  have HI : Hid (fxI (fun y => decide (md H y name = 0)) l = if fx (fun y => decide (md H y name = 0)) l = l.length then -1 else ((fx (fun y => decide (md H y name = 0)) l : Nat) : Int)) := Lib.hid rfl
  generalize fxI (fun y => decide (md H y name = 0)) l = R at *
  generalize fx (fun y => decide (md H y name = 0)) l = F at *
  clear hv kb hc
  go_enter Tryz.func38, Tryz.ntmps38
  go_wp2_with fail
  go_loopw [5, 8] (fun _ i wr => ∃ k : Nat, i = .int .i64 k ∧ k ≤ F ∧ Hid (Below w.heap.size w wr)) (fun _ i _ => l.length - (intOf i).toNat)
  case atStart => exact ⟨0, rfl, Nat.zero_le _, B0⟩
  case round =>
    clear B0
    obtain ⟨k, rfl, hk, hB⟩ := hrel
    by_cases hlt : k < l.length
    · obtain ⟨y, hy⟩ : ∃ y, l[k]? = some y := ⟨l[k]'hlt, List.getElem?_eq_getElem _⟩
      obtain ⟨b, rfl⟩ : ∃ b, A = some ⟨b, 0, none⟩ := by
        rcases HV.out.forms with ⟨-, hz⟩ | ⟨g, cap, he, -⟩
        · omega
        · cases he; exact ⟨_, rfl⟩
      have hv := HV.out.keepB hB.out
      have d0 : wr.cell? ⟨b, k, none⟩ = some (.int .i64 y) := hv.cell (j := k) (nums_at l k y hy)
      clear hv
      have hyo : I64w y := hl y (List.mem_of_getElem? hy)
      by_cases hkf : k = F
      · have h0 : decide (md H y name = 0) = true := by
          rw [hkf] at hy
          exact HA.out y hy
        have hne : ¬ F = l.length := by omega
        have HR : Hid (R = (k : Nat)) := Lib.hid (by rw [HI.out, if_neg hne, hkf])
        clear hy hkf hne HI HA HL
        go_wp2_with fail
        refine (HP.out y _ hB.out hyo).mono ?_
        rintro e w2 ⟨rfl, hX⟩
        have B1 := Lib.hid (bl hB.out hX)
        clear hX hB d0
        simp only [h0]
        go_wp2_with fail
        go_returns
        exact ⟨by rw [HR.out]; rfl, B1.out⟩
      · have h0 : decide (md H y name = 0) = false := HL.out k (by omega) y hy
        clear hy
        go_wp2_with fail
        refine (HP.out y _ hB.out hyo).mono ?_
        rintro e w2 ⟨rfl, hX⟩
        have B1 := Lib.hid (bl hB.out hX)
        clear hX hB d0
        simp only [h0]
        go_wp2_with fail
        go_roundw
        case rel => exact ⟨k + 1, by go_num, by omega, B1⟩
        case measure => simp [intOf]; omega
    · have hkf : F = l.length := by omega
      have HR : Hid (R = -1) := Lib.hid (by rw [HI.out, if_pos hkf])
      go_wp2_with fail
      go_returns
      exact ⟨by rw [HR.out]; rfl, hB.out⟩
end
end Go.Proofs.YtikdjgholjealaaGreatDoor.Lk
