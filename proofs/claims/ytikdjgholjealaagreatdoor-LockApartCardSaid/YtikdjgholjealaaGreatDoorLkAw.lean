/- The example of the document (awake). -/
import Derived.Test.YtikdjgholjealaaGreatDoorLkQ
import Derived.Test.YtikdjgholjealaaGreatDoorLkN
import Derived.Test.YtikdjgholjealaaGreatDoorInts
namespace Go.Proofs.YtikdjgholjealaaGreatDoor.Lk
open Go.ChangeShapes Go.WideShapes Go.ChangeAt Go.RowKit Go.PlainAid Aid Md
set_option linter.unusedVariables false
set_option linter.unusedSimpArgs false
/-! The steps, plain. -/
abbrev kk : By := [107]
theorem aw1 {c : Int} {H' : List Hol} {L' : List Lin} {W' : List Wan} (t : AskT [] [] [] 1 kk 6 c H' L' W') : c = 0 ∧ L' = [] ∧ W' = [] ∧ ∃ nb, H' = [(kk, nb, [(1, 6)])] := by
  have e : joinedZ (md [] 1 kk) 6 = 6 := by decide +kernel
  cases t with
  | arg h => rw [e] at h; rcases h with h | h <;> cases h
  | same hw hj hs => rw [e] at hs; cases hs
  | full hw hj hm hc => cases hc
  | busy hw hj hs hm hf v => exact absurd rfl hf
  | hold hw hj hs hm hf nb => rw [e]; exact ⟨rfl, rfl, rfl, nb, rfl⟩
theorem aw2 {nb : Nat} {c : Int} {H' : List Hol} {L' : List Lin} {W' : List Wan} (t : AskT [(kk, nb, [(1, 6)])] [] [] 2 kk 6 c H' L' W') : c = 0 ∧ L' = [] ∧ W' = [] ∧ H' = [(kk, nb, [(2, 6), (1, 6)])] := by
  have e0 : md [(kk, nb, [(1, 6)])] 2 kk = 0 := rfl
  have e : joinedZ 0 6 = 6 := by decide +kernel
  cases t with
  | arg h => rw [e0, e] at h; rcases h with h | h <;> cases h
  | same hw hj hs => rw [e0, e] at hs; cases hs
  | full hw hj hm hc => exact absurd hc (by show ¬ (300 ≤ 1); decide)
  | busy hw hj hs hm hf v =>
    refine absurd ?_ hf
    rw [e0, e]
    have : goesZ 6 6 = true := by decide +kernel
    show (List.map Prod.fst (List.filter (fun p => !decide (p.1 = 2) && !goesZ 6 p.2) [(1, 6)])) ++ [] = []
    simp [this]
  | hold hw hj hs hm hf nb => rw [e0, e]; exact ⟨rfl, rfl, rfl, rfl⟩
theorem aw3 {nb : Nat} {c : Int} {H' : List Hol} {L' : List Lin} {W' : List Wan} (t : AskT [(kk, nb, [(2, 6), (1, 6)])] [] [] 3 kk 3 c H' L' W') : c = 11 ∧ H' = [(kk, nb, [(2, 6), (1, 6)])] ∧ W' = [(3, kk, 3)] ∧ ∃ v, L' = [(kk, v, [3])] := by
  have e0 : md [(kk, nb, [(2, 6), (1, 6)])] 3 kk = 0 := rfl
  have e : joinedZ 0 3 = 3 := by decide +kernel
  cases t with
  | arg h => rw [e0, e] at h; rcases h with h | h <;> cases h
  | same hw hj hs => rw [e0, e] at hs; cases hs
  | full hw hj hm hc => exact absurd hc (by show ¬ (300 ≤ 2); decide)
  | hold hw hj hs hm hf nb =>
    rw [e0, e] at hf
    have h1 : goesZ 3 6 = false := by decide +kernel
    have : (List.map Prod.fst (List.filter (fun p => !decide (p.1 = (3 : Int)) && !goesZ 3 p.2) [((2 : Int), (6 : Int)), (1, 6)])) ++ [] = [] := hf
    simp [h1] at this
  | busy hw hj hs hm hf v => rw [e0, e]; exact ⟨rfl, rfl, rfl, v, rfl⟩
theorem aw4 {nb : Nat} {v : Value} {c : Int} {H' : List Hol} {L' : List Lin} {W' : List Wan} (t : AskT [(kk, nb, [(2, 6), (1, 6)])] [(kk, v, [3])] [(3, kk, 3)] 1 kk 3 c H' L' W') : c = 11 ∧ H' = [(kk, nb, [(2, 6), (1, 6)])] ∧ W' = [(1, kk, 5), (3, kk, 3)] ∧ ∃ v, L' = [(kk, v, [1, 3])] := by
  have e0 : md [(kk, nb, [(2, 6), (1, 6)])] 1 kk = 6 := rfl
  have e : joinedZ 6 3 = 5 := by decide +kernel
  cases t with
  | arg h => rw [e0, e] at h; rcases h with h | h <;> cases h
  | same hw hj hs => rw [e0, e] at hs; cases hs
  | full hw hj hm hc => exact absurd hc (by show ¬ (300 ≤ 3); decide)
  | hold hw hj hs hm hf nb =>
    rw [e0, e] at hf
    have h1 : goesZ 5 6 = false := by decide +kernel
    have : (List.map Prod.fst (List.filter (fun p => !decide (p.1 = (1 : Int)) && !goesZ 5 p.2) [((2 : Int), (6 : Int)), (1, 6)])) ++ [] = [] := hf
    simp [h1] at this
  | busy hw hj hs hm hf v => rw [e0, e]; exact ⟨rfl, rfl, rfl, v, rfl⟩
theorem names1 (nm : By) (v : Value) (l : List Int) : namesL [(nm, v, l)] = [nm] := by
  unfold namesL
  simp
theorem aw5 {nb : Nat} {v : Value} {Hd H' : List Hol} {L' : List Lin} {W' : List Wan} {s : List Int} (hd : Hd.Perm (dropL [(kk, nb, [(2, 6), (1, 6)])] 2)) (t : CanT Hd [(kk, v, [1, 3])] [(1, kk, 5), (3, kk, 3)] 2 H' L' W' s) : s = [1] ∧ H' = [(kk, nb, [(1, 5)])] ∧ W' = [(3, kk, 3)] ∧ ∃ v, L' = [(kk, v, [3])] := by
  have hd2 : Hd = [(kk, nb, [(1, 6)])] := List.perm_singleton.1 hd
  subst hd2
  cases t with
  | yes hw _ _ => cases hw
  | no hw t =>
    rw [names1] at t
    have key : ∀ (k : Nat) H L W s, Stp [kk] [(kk, nb, [(1, 6)])] [(kk, v, [1, 3])] [(1, kk, 5), (3, kk, 3)] k H L W s → (k = 0 ∧ s = [] ∧ H = [(kk, nb, [(1, 6)])] ∧ L = [(kk, v, [1, 3])] ∧ W = [(1, kk, 5), (3, kk, 3)]) ∨ ((k = 0 ∨ k = 1) ∧ s = [1] ∧ H = [(kk, nb, [(1, 5)])] ∧ W = [(3, kk, 3)] ∧ ∃ v, L = [(kk, v, [3])]) := by
      intro k H L W s t
      induction t with
      | start => exact Or.inl ⟨rfl, rfl, rfl, rfl, rfl⟩
      | one t id nb v hk hx ih =>
        rcases ih with ⟨rfl, rfl, rfl, rfl, rfl⟩ | ⟨h, rfl, rfl, rfl, v2, rfl⟩
        · have hx2 : some (1 : Int) = some id := hx
          cases hx2
          exact Or.inr ⟨Or.inl rfl, rfl, rfl, rfl, _, rfl⟩
        · have hk0 := hk
          rcases h with rfl | rfl
          · exfalso
            have h1 : goesZ 3 5 = false := by decide +kernel
            have h2 : (if decide ((List.map Prod.fst (List.filter (fun p => !decide (p.1 = (3 : Int)) && !goesZ 3 p.2) [((1 : Int), (5 : Int))])) ++ [] = []) then some (3 : Int) else none) = some id := hx
            simp [h1] at h2
          · exact absurd hk0 (by simp)
      | next t hk hx ih =>
        rcases ih with ⟨rfl, rfl, rfl, rfl, rfl⟩ | ⟨h, rfl, rfl, rfl, v2, rfl⟩
        · have hx2 : some (1 : Int) = none := hx
          cases hx2
        · rcases h with rfl | rfl
          · exact Or.inr ⟨Or.inr rfl, rfl, rfl, rfl, v2, rfl⟩
          · exact absurd hk (by simp)
    rcases key _ _ _ _ _ t with ⟨h, -⟩ | ⟨-, h⟩
    · cases h
    · exact h
theorem hold_eq (W : World) : (binOp BinOp.eql 32 (.agg #[.string ⟨#[107]⟩, .int .i64 5]) (.agg #[.string ⟨#[107]⟩, .int .i64 5])).run Tryz.prog W = .ok (.bool true) W := by kernel_rfl
theorem ptr_eq (g : Nat) (W : World) : (binOp BinOp.eql 24 (.pointer (some ⟨g, 0, none⟩)) (.pointer none)).run Tryz.prog W = .ok (.bool false) W := by kernel_rfl
set_option maxRecDepth 100000 in
set_option maxHeartbeats 8000000 in
theorem awake_any (w : World) (ht : Tabs w) :
    Calls Tryz.prog 5 #[] w fun e w' => e = .returned (.bool true) ∧ Below w.heap.size w w' := by
  have HT := Lib.hid ht
  have i1 : I64w 1 := by decide
  have i2 : I64w 2 := by decide
  have i3 : I64w 3 := by decide
  have hk : kk.length ≤ 1000 := by decide
  have hke : ofL kk = ⟨#[107]⟩ := rfl
  have HK := Lib.hid hk
  have HI1 := Lib.hid i1
  have HI2 := Lib.hid i2
  have HI3 := Lib.hid i3
  clear ht i1 i2 i3 hk hke
  go_enter Tryz.func5, Tryz.ntmps5
  go_wp2_with fail
  refine (new_any w w _ (Own.none w)).mono ?_
  rintro e w1 ⟨bb, h, l, wt, rfl, hX⟩
  have S1 := Lib.hid hX
  clear hX
  unfold bPtr at *
  have hpe := ptr_eq bb w1
  go_wp2_with fail
  clear hpe
  have hA := Ask_any (id := 1) (name := kk) 6 w w1 _ S1.out HT.out HI1.out HK.out inv_nil (by decide) (by decide)
  unfold bPtr at hA
  refine hA.mono ?_
  rintro e w2 ⟨c, H', L', W', rfl, t, hX⟩
  have hv2 := t.inv inv_nil HI1.out HK.out
  obtain ⟨rfl, rfl, rfl, nb, rfl⟩ := aw1 t
  have S2 := Lib.hid hX
  have V2 := Lib.hid hv2
  clear hA hX S1 hv2 t
  go_wp2_with fail
  have hA := Ask_any (id := 2) (name := kk) 6 w w2 _ S2.out HT.out HI2.out HK.out V2.out (by decide) (by show (1 : Nat) ≤ 1000000; decide)
  unfold bPtr at hA
  refine hA.mono ?_
  rintro e w3 ⟨c, H', L', W', rfl, t, hX⟩
  have hv2 := t.inv V2.out HI2.out HK.out
  obtain ⟨rfl, rfl, rfl, rfl⟩ := aw2 t
  have S3 := Lib.hid hX
  have V3 := Lib.hid hv2
  clear hA hX S2 V2 hv2 t
  go_wp2_with fail
  have hA := Ask_any (id := 3) (name := kk) 3 w w3 _ S3.out HT.out HI3.out HK.out V3.out (by decide) (by show (2 : Nat) ≤ 1000000; decide)
  unfold bPtr at hA
  refine hA.mono ?_
  rintro e w4 ⟨c, H', L', W', rfl, t, hX⟩
  have hv2 := t.inv V3.out HI3.out HK.out
  obtain ⟨rfl, rfl, rfl, v, rfl⟩ := aw3 t
  have S4 := Lib.hid hX
  have V4 := Lib.hid hv2
  clear hA hX S3 V3 hv2 t
  go_wp2_with fail
  have hA := Ask_any (id := 1) (name := kk) 3 w w4 _ S4.out HT.out HI1.out HK.out V4.out (by decide) (by show (3 : Nat) ≤ 1000000; decide)
  unfold bPtr at hA
  refine hA.mono ?_
  rintro e w5 ⟨c, H', L', W', rfl, t, hX⟩
  have hv2 := t.inv V4.out HI1.out HK.out
  obtain ⟨rfl, rfl, rfl, v2, rfl⟩ := aw4 t
  have S5 := Lib.hid hX
  have V5 := Lib.hid hv2
  clear hA hX S4 V4 hv2 t v
  go_wp2_with fail
  have hA := Waits_any 1 w5 (bk_of S5.out) HI1.out
  have hw : wanL [((1 : Int), kk, (5 : Int)), (3, kk, 3)] 1 = some (1, kk, 5) := rfl
  unfold bPtr at hA
  rw [hw, wV_of hw] at hA
  refine hA.mono ?_
  rintro e w6 ⟨rfl, hb⟩
  have S6 := Lib.hid ((S5.out.below hb).alloc #[.string ⟨#[107]⟩, .int .i64 5] 32)
  clear hA hw hb S5
  simp only [Option.isSome_some]
  go_wp2_with fail
  obtain ⟨gw, hgz⟩ : ∃ g, g = w6.heap.size := ⟨_, rfl⟩
  have hek : ofL kk = ⟨#[107]⟩ := rfl
  rw [hek]
  rw [← hgz] at S6 ⊢
  clear hgz hek
  generalize w6.alloc _ = w7 at *
  have S7 := Lib.hid (S6.out.re (show _ = aBk bb h l wt [(kk, nb, [(2, 6), (1, 6)])] [(kk, v2, [1, 3])] [(1, kk, 5), (3, kk, 3)] * (Asn.blk gw 32 #[.string ⟨#[107]⟩, .int .i64 5] * Asn.emp) by ac_rfl))
  clear S6
  have hA := Drop_st (id := 2) w w7 _ S7.out HT.out HI2.out V5.out (by decide)
  unfold bPtr at hA
  refine hA.mono ?_
  rintro e w8 ⟨vd, rfl, Hd, H', L', W', s, hp, t, hX⟩
  obtain ⟨rfl, rfl, rfl, v3, rfl⟩ := aw5 hp t
  obtain ⟨A, c, rfl⟩ := hX.vec.slice
  have S8 := Lib.hid (hX.alloc #[.int .i64 1] 3)
  have hca : w8.cell? ⟨gw, 0, none⟩ = some (.string ⟨#[107]⟩) := (hX.has (Has.r (Has.r (Has.l (has_blk gw _ _))))).cell 0
  have hcb : w8.cell? ⟨gw, 1, none⟩ = some (.int .i64 5) := (hX.has (Has.r (Has.r (Has.l (has_blk gw _ _))))).cell 1
  have heq := hold_eq w8
  clear hA hp t hX S7 V5
  obtain ⟨g1, hg1⟩ : ∃ g, g = w8.heap.size := ⟨_, rfl⟩
  have HI : Hid (IntsAt (w8.alloc (.cells #[.int .i64 1] 3)) (some ⟨w8.heap.size, 0, none⟩) [1]) := Lib.hid (Or.inr ⟨_, 0, rfl, by simp [World.size_alloc], fun j x hj => by
    have hb := S8.out.has (Has.l (has_blk _ _ _))
    rcases j with _ | j
    · cases hj
      exact hb.cell 0
    · cases hj⟩)
  have HJ : Hid (IntsAt (w8.alloc (.cells #[.int .i64 1] 3)) A [1]) := Lib.hid (IntsAt.of_vec (T := 3) S8.out.right.vec)
  go_wp2_with fail
  refine (Ints_any A (some ⟨w8.heap.size, 0, none⟩) c 1 [1] [1] _ HJ.out HI.out (by decide) (by decide)).mono ?_
  rintro e w9 ⟨rfl, hb⟩
  have S9 := Lib.hid ((S8.out.right.right.left).below hb)
  clear hb HI HJ S8 hg1 hca hcb heq
  have hd1 : decide ([(1 : Int)] = [1]) = true := rfl
  rw [hd1]
  clear hd1
  have hM := Mode_any 1 kk w9 (bk_of S9.out.addEmp) HI1.out HK.out
  have hme : md [(kk, nb, [((1 : Int), (5 : Int))])] 1 kk = 5 := rfl
  unfold bPtr at hM
  rw [hme] at hM
  clear hme
  go_wp2_with fail
  refine hM.mono ?_
  rintro e w10 ⟨rfl, hww⟩
  rw [hww]
  clear hww w10 hM
  have hC := Count_any w9 (bk_of S9.out.addEmp) (by show (2 : Nat) ≤ 1000000; decide)
  have hce : cnt [(kk, nb, [((1 : Int), (5 : Int))])] [((3 : Int), kk, (3 : Int))] = 2 := rfl
  unfold bPtr at hC
  rw [hce] at hC
  clear hce
  go_wp2_with fail
  refine hC.mono ?_
  rintro e w10 ⟨rfl, hb⟩
  have S10 := Lib.hid (S9.out.below hb)
  clear hb S9 hC
  go_wp2_with fail
  go_returns
  exact ⟨rfl, S10.out.bel⟩
end Go.Proofs.YtikdjgholjealaaGreatDoor.Lk
