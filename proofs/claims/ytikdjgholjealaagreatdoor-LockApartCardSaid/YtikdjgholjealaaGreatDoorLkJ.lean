/- The next one of a line. -/
import Derived.Test.YtikdjgholjealaaGreatDoorLkG
namespace Go.Proofs.YtikdjgholjealaaGreatDoor.Lk
open Go.ChangeShapes Go.WideShapes Go.ChangeAt Go.RowKit Go.PlainAid Aid Md
set_option linter.unusedVariables false
set_option linter.unusedSimpArgs false
/-- The first of which f is true, with those who stand ahead of it. -/
def nxN (f : Int → List Int → Bool) (pre : List Int) : List Int → Option Int
  | [] => none
  | a :: l => if f a pre then some a else nxN f (pre ++ [a]) l
/-- Whether one may have what it waits for. -/
def canL (H : List Hol) (W : List Wan) (id : Int) (ahead : List Int) : Bool := decide (blkL H W id (wV W id).1 (wV W id).2 ahead = [])
def nxL (H : List Hol) (L : List Lin) (W : List Wan) (name : By) : Option Int := nxN (canL H W) [] (ids L name)
theorem nxN_at (f : Int → List Int → Bool) (l : List Int) (k : Nat) (a : Int) (ha : l[k]? = some a) : nxN f (l.take k) (l.drop k) = if f a (l.take k) then some a else nxN f (l.take (k + 1)) (l.drop (k + 1)) := by
  have hk := (List.getElem?_eq_some_iff.1 ha).1
  have h1 : l.drop k = a :: l.drop (k + 1) := by
    rw [List.drop_eq_getElem_cons hk]
    congr 1
    exact (List.getElem?_eq_some_iff.1 ha).2
  have h2 : l.take (k + 1) = l.take k ++ [a] := by rw [List.take_add_one, ha]; rfl
  rw [h1, h2]
  rfl
section
variable {bb h l wt : Nat} {H : List Hol} {L : List Lin} {W : List Wan}
theorem Bk.line {w : World} (k : Bk w bb h l wt H L W) (name : By) : Vec w 3 1 (lV L name) (ids L name).length (nums (ids L name)) := by
  cases hx : linL L name with
  | none =>
    have h1 : lV L name = .slice none 0 0 := by unfold lV; rw [hx]
    have h2 : ids L name = [] := by unfold ids; rw [hx]
    rw [h1, h2]
    exact ((Own.none w).nilVec 3 1).vec
  | some x =>
    have h1 : lV L name = x.2.1 := by unfold lV; rw [hx]
    have h2 : ids L name = x.2.2 := by unfold ids; rw [hx]
    rw [h1, h2]
    exact k.li x (List.mem_of_find?_eq_some hx)
set_option maxRecDepth 100000 in
set_option maxHeartbeats 8000000 in
theorem next_any (name : By) (w : World) (k : Bk w bb h l wt H L W) (ht : Tabs w) (hn : name.length ≤ 1000) (hl : (ids L name).length ≤ 100000) (hid : ∀ o, o ∈ ids L name → I64w o) (hw : ∀ o, (wV W o).1.length ≤ 1000) :
    Calls Tryz.prog 46 #[bPtr bb, .string (ofL name)] w fun e w' => e = .returned (.tuple #[.int .i64 ((nxL H L W name).getD 0), .bool (nxL H L W name).isSome]) ∧ Below w.heap.size w w' := by
  have e1 := k.look_l name hn
  have hv := k.line name
  have c0 : w.cell? ⟨bb, 1, none⟩ = some (.map (some l)) := k.blk.cell 1
  obtain ⟨A, c, hvs⟩ := hv.slice
  rw [hvs] at hv e1
  have HV := Lib.hid hv
  have HK := Lib.hid k
  have HT := Lib.hid ht
  have HW := Lib.hid hw
  have HI := Lib.hid hid
  have HN : Hid (nxL H L W name = nxN (canL H W) ((ids L name).take 0) ((ids L name).drop 0)) := Lib.hid rfl
  have B0 : Hid (Below w.heap.size w w) := Lib.hid (Below.refl _ _)
  generalize ids L name = li at *
  generalize nxL H L W name = R at *
  clear hv k ht hw hid
  unfold bPtr
  go_enter Tryz.func46, Tryz.ntmps46
  go_wp2_with fail
  clear e1 c0
  go_loopw [7, 8, 17] (fun _ _ i wr => ∃ k : Nat, i = .int .i64 k ∧ k ≤ li.length ∧ Hid (R = nxN (canL H W) (li.take k) (li.drop k)) ∧ Hid (Below w.heap.size w wr)) (fun _ _ i _ => li.length - (intOf i).toNat)
  case atStart => exact ⟨0, rfl, Nat.zero_le _, HN, B0⟩
  case round =>
    clear B0 HN
    obtain ⟨k, rfl, hk, hR, hB⟩ := hrel
    by_cases hlt : k < li.length
    · obtain ⟨y, hy⟩ : ∃ y, li[k]? = some y := ⟨li[k]'hlt, List.getElem?_eq_getElem _⟩
      have hv := HV.out.keepB hB.out
      obtain ⟨b, rfl, hcap⟩ : ∃ b, A = some ⟨b, 0, none⟩ ∧ li.length ≤ c := by
        rcases HV.out.forms with ⟨-, hz⟩ | ⟨g, cap, he, -, hnc, -⟩
        · omega
        · cases he; exact ⟨_, rfl, hnc⟩
      have d0 : wr.cell? ⟨b, k, none⟩ = some (.int .i64 y) := hv.cell (j := k) (nums_at li k y hy)
      have hyi : I64w y := HI.out y (List.mem_of_getElem? hy)
      have hR2 := hR.out
      rw [nxN_at _ _ _ _ hy] at hR2
      have HR2 := Lib.hid hR2
      have HNu : Hid (Nums wr.drew (some ⟨b, 0, none⟩) k (li.take k)) := Lib.hid ⟨by rw [List.length_take]; omega, Or.inr ⟨b, 0, rfl, (show b < wr.heap.size from hv.lt rfl), fun j hj => by
        rw [Nat.zero_add]
        have hjl : j < li.length := by omega
        have := hv.cell (j := j) (nums_at li j (li[j]'hjl) (List.getElem?_eq_getElem _))
        rw [show (li.take k).getD j 0 = li[j]'hjl by rw [List.getD_eq_getElem?_getD, List.getElem?_take_of_lt hj, List.getElem?_eq_getElem hjl]; rfl]
        exact this⟩⟩
      have hka := HK.out.keepB (hB.out.drew)
      have e2 := hka.look_w y hyi
      have c1 : wr.drew.cell? ⟨bb, 2, none⟩ = some (.map (some wt)) := hka.blk.cell 2
      clear hR hR2 hv hy
      have hb1 : (k : Int) ≤ (c : Int) := by omega
      have hb2 : k ≤ c := by omega
      go_wp2_with fail
      refine wp_region_still_tail 11 (by kernel_rfl) (by kernel_rfl) ?_
      simp only [List.take_succ_cons, List.take_zero, List.drop_succ_cons, List.drop_zero]
      change wpStill _ _ wr.drew _ _ _
      repeat still_step
      refine wpStill_nil ?_
      change wpList _ _ _ _ _ wr.drew
      go_wp2_with fail
      refine (free_any (id := y) (name := (wV W y).1) (mode := (wV W y).2) (ahead := li.take k) wr.drew hka (HT.out.keep (hB.out.drew)) HNu.out hyi (HW.out y) (fun o ho => HI.out o (List.mem_of_mem_take ho)) (by omega)).mono ?_
      rintro e w5 ⟨rfl, hX⟩
      have B1 := Lib.hid (bl hB.out.drew hX)
      have hcan : decide (blkL H W y (wV W y).1 (wV W y).2 (li.take k) = []) = canL H W y (li.take k) := rfl
      rw [hcan]
      clear hX hB e2 c1 d0 HNu hka hcan
      cases hc : canL H W y (li.take k) with
      | true =>
        rw [hc, if_pos rfl] at HR2
        go_wp2_with fail
        go_returns
        exact ⟨by rw [HR2.out]; rfl, B1.out⟩
      | false =>
        rw [hc, if_neg (by decide)] at HR2
        go_wp2_with fail
        go_roundw
        case rel => exact ⟨k + 1, by go_num, by omega, HR2, B1⟩
        case measure => simp [intOf]; omega
    · have hke : k = li.length := by omega
      have hR2 := hR.out
      rw [hke, List.drop_length] at hR2
      have HR2 : Hid (R = none) := Lib.hid hR2
      clear hR hR2
      go_wp2_with fail
      go_returns
      exact ⟨by rw [HR2.out]; rfl, hB.out⟩
end
end Go.Proofs.YtikdjgholjealaaGreatDoor.Lk
