/- The walk of LockIncrements. -/
import Derived.Test.YtikdjgholjealaaGreatDoorLkAw
import Derived.Test.YtikdjgholjealaaGreatDoorLkV
namespace Go.Proofs.YtikdjgholjealaaGreatDoor.Lk
open Go.ChangeShapes Go.WideShapes Go.ChangeAt Go.RowKit Go.PlainAid Aid Md
set_option linter.unusedVariables false
set_option linter.unusedSimpArgs false
abbrev gp : By := [103, 114, 111, 117, 112]
/-- Only E is held of the one name, by at most n. -/
def InS (n : Nat) (H : List Hol) : Prop := ∃ nb l, ((H = [] ∧ l = []) ∨ H = [(gp, nb, l)]) ∧ (∀ p, p ∈ l → p.2 = 6) ∧ l.length ≤ n
theorem mdL_six {l : List (Int × Int)} (h : ∀ p, p ∈ l → p.2 = 6) (id : Int) : mdL l id = 0 ∨ mdL l id = 6 := by
  unfold mdL
  cases hf : l.find? (fun p => decide (p.1 = id)) with
  | none => exact Or.inl rfl
  | some p => exact Or.inr (h p (List.mem_of_find?_eq_some hf))
theorem setL_six {l : List (Int × Int)} (h : ∀ p, p ∈ l → p.2 = 6) (id : Int) : ∀ p, p ∈ setL l id 6 → p.2 = 6 := by
  intro p hp
  rcases List.mem_cons.1 hp with rfl | hp
  · rfl
  · exact h p (List.mem_filter.1 hp).1
theorem in_ask {n : Nat} {H H' : List Hol} {L' : List Lin} {W' : List Wan} {id c : Int} (h : InS n H) (hn : n < 300) (t : AskT H [] [] id gp 6 c H' L' W') : c = 0 ∧ L' = [] ∧ W' = [] ∧ InS (n + 1) H' ∧ md H' id gp = 6 := by
  obtain ⟨nb, l, hH, h6, hl⟩ := h
  have he : holE H gp = l := by rcases hH with ⟨rfl, rfl⟩ | rfl <;> rfl
  have hc : cnt H [] = l.length := by
    rcases hH with ⟨rfl, rfl⟩ | rfl
    · rfl
    · show 0 + (List.map _ [_]).sum = _; simp
  have hm : joinedZ (md H id gp) 6 = 6 := by
    rw [md_holE, he]
    rcases mdL_six h6 id with e | e <;> rw [e] <;> decide +kernel
  cases t with
  | arg h => rw [hm] at h; rcases h with h | h <;> cases h
  | same hw hj hs => exact ⟨rfl, rfl, rfl, ⟨nb, l, hH, h6, by omega⟩, hs.symm.trans hm⟩
  | full hw hj hm2 hc2 => rw [hc] at hc2; omega
  | busy hw hj hs hm2 hf v =>
    refine absurd ?_ hf
    rw [hm]
    unfold blkL
    rw [he]
    have h1 : blkH l id 6 = [] := by
      unfold blkH
      rw [List.map_eq_nil_iff, List.filter_eq_nil_iff]
      intro p hp
      rw [h6 p hp, show goesZ 6 6 = true by decide +kernel]
      simp
    have h2 : blkA [] 6 (ids [] gp) = [] := rfl
    rw [h1, h2]
    split <;> rfl
  | hold hw hj hs hm2 hf nb2 =>
    rw [hm]
    refine ⟨rfl, rfl, rfl, ?_, by rw [md_set, if_pos ⟨rfl, rfl⟩]⟩
    rcases hH with ⟨rfl, rfl⟩ | rfl
    · exact ⟨nb2, [(id, 6)], Or.inr rfl, by simp, by simp⟩
    · exact ⟨nb, setL l id 6, Or.inr rfl, setL_six h6 id, by have := setL_len l id 6; omega⟩
theorem stp_none {H H' : List Hol} {L' : List Lin} {W' : List Wan} {s : List Int} {k : Nat} (t : Stp (namesL []) H [] [] k H' L' W' s) : H' = H ∧ L' = [] ∧ W' = [] ∧ s = [] := by
  have hn : namesL [] = [] := by unfold namesL; simp
  rw [hn] at t
  cases t with
  | start => exact ⟨rfl, rfl, rfl, rfl⟩
  | one t id nb v hk hx => cases hk
  | next t hk hx => cases hk
theorem in_drop {n : Nat} {H Hd H' : List Hol} {L' : List Lin} {W' : List Wan} {s : List Int} {id : Int} (h : InS n H) (hp : Hd.Perm (dropL H id)) (t : CanT Hd [] [] id H' L' W' s) : s = [] ∧ L' = [] ∧ W' = [] ∧ InS n H' ∧ md H' id gp = 0 := by
  obtain ⟨nb, l, hH, h6, hl⟩ := h
  cases t with
  | yes hw _ _ => cases hw
  | no hw t =>
    obtain ⟨rfl, rfl, rfl, rfl⟩ := stp_none t
    refine ⟨rfl, rfl, rfl, ?_⟩
    have h6' : ∀ p, p ∈ without l id → p.2 = 6 := fun p hp => h6 p (List.mem_filter.1 hp).1
    have hl' : (without l id).length ≤ n := Nat.le_trans (List.length_filter_le _ _) hl
    rcases hH with ⟨rfl, rfl⟩ | rfl
    · obtain rfl : H' = [] := List.Perm.eq_nil hp
      exact ⟨⟨nb, [], Or.inl ⟨rfl, rfl⟩, by simp, by simp⟩, rfl⟩
    · have ed : dropL [(gp, nb, l)] id = if (without l id).isEmpty then [] else [(gp, nb, without l id)] := by
        unfold dropL
        show List.filter _ [offX (gp, nb, l) id] = _
        rw [List.filter_cons]
        show (if (!(without l id).isEmpty) = true then _ else _) = _
        cases (without l id).isEmpty <;> rfl
      rw [ed] at hp
      cases hz : (without l id).isEmpty with
      | true =>
        rw [hz] at hp
        obtain rfl : H' = [] := List.Perm.eq_nil hp
        exact ⟨⟨nb, [], Or.inl ⟨rfl, rfl⟩, by simp, by simp⟩, rfl⟩
      | false =>
        rw [hz] at hp
        obtain rfl : H' = [(gp, nb, without l id)] := List.perm_singleton.1 hp
        refine ⟨⟨nb, _, Or.inr rfl, h6', hl'⟩, ?_⟩
        rw [md_holE]
        show mdL (without l id) id = 0
        rw [mdL_without, if_pos rfl]
/-- Numbers that came in. -/
def Row1 (w : World) (A : Option Addr) (m : Nat) (z : Nat → Int) : Prop := m = 0 ∨ ∃ b o, A = some ⟨b, o, none⟩ ∧ b < w.heap.size ∧ ∀ i, i < m → w.cell? ⟨b, o + i, none⟩ = some (.int .i64 (z i)) ∧ I64w (z i)
theorem Row1.keep {w w' : World} {A : Option Addr} {m : Nat} {z : Nat → Int} (h : Row1 w A m z) (hb : Below w.heap.size w w') : Row1 w' A m z := by
  rcases h with h | ⟨b, o, rfl, hl, hc⟩
  · exact Or.inl h
  · exact Or.inr ⟨b, o, rfl, Nat.lt_of_lt_of_le hl hb.size, fun i hi => by rw [(bcell hb).1 _ _ hl]; exact hc i hi⟩
set_option maxRecDepth 100000 in
set_option maxHeartbeats 8000000 in
theorem incr_walk (A : Option Addr) (m c : Nat) (z : Nat → Int) (dr : Int) (w : World) (ht : Tabs w) (hm : m ≤ maxLen) (hR : Row1 w A m z) :
    Calls Tryz.prog 4 #[.slice A m c, .int .i64 dr] w fun e w' => e = .returned (.bool true) ∧ Below w.heap.size w w' := by
  have HT := Lib.hid ht
  have HR := Lib.hid hR
  obtain ⟨K, hK, hK2⟩ := mod_u dr 7 (by decide) (by decide)
  unfold maxLen at hm
  have HA := Lib.hid (awake_any w ht)
  clear ht hR
  by_cases h2 : 200 < (m : Int)
  · go_enter Tryz.func4, Tryz.ntmps4
    go_wp2_with fail
    refine HA.out.mono ?_
    rintro e w1 ⟨rfl, hX⟩
    have B1 := Lib.hid hX
    clear hX HA
    go_wp2_with fail
    go_returns
    exact ⟨rfl, B1.out⟩
  have hk : gp.length ≤ 1000 := by decide
  have HK := Lib.hid hk
  clear hk
  go_enter Tryz.func4, Tryz.ntmps4
  go_wp2_with fail
  refine HA.out.mono ?_
  rintro e w1 ⟨rfl, hX⟩
  have S1 := Lib.hid (Own.of_below hX)
  clear hX HA
  go_wp2_with fail
  refine (new_any w w1 _ S1.out).mono ?_
  rintro e w2 ⟨bb, h, l, wt, rfl, hX⟩
  have S2 := Lib.hid hX
  clear hX S1
  unfold bPtr at *
  go_wp2_with fail
  go_loopw [6] (fun i wr => ∃ (k : Nat) (H : List Hol), k ≤ m ∧ i = .int .i64 k ∧ Hid (InS k H) ∧ Hid (Inv k H [] []) ∧ Hid (Aid.Own w No wr (aBk bb h l wt H [] [] * Asn.emp))) (fun i _ => m - (intOf i).toNat)
  case atStart => exact ⟨0, [], Nat.zero_le _, rfl, Lib.hid ⟨0, [], Or.inl ⟨rfl, rfl⟩, by simp, Nat.le_refl _⟩, Lib.hid inv_nil, S2⟩
  case round =>
    clear S2
    obtain ⟨k, H, hk, rfl, HI, HV, S⟩ := hrel
    by_cases hlt : k < m
    · rcases HR.out.keep S.out.bel with e | ⟨b, o, rfl, -, hc⟩
      · omega
      obtain ⟨hc0, hw0⟩ := hc k hlt
      clear hc
      go_wp2_with fail
      have hA := Ask_any (id := z k) (name := gp) 6 w wr _ S.out HT.out hw0 HK.out HV.out (by omega) (by
        obtain ⟨nb, l2, hH, -, hl⟩ := HI.out
        rcases hH with ⟨rfl, rfl⟩ | rfl
        · decide
        · show 0 + (List.map _ [_]).sum ≤ _; simp; omega)
      unfold bPtr at hA
      refine hA.mono ?_
      rintro e w3 ⟨cc, H3, L3, W3, rfl, t, hX⟩
      have hv3 := t.inv HV.out hw0 HK.out
      obtain ⟨rfl, rfl, rfl, hi3, hmd⟩ := in_ask HI.out (by omega) t
      have S3 := Lib.hid hX
      have HI3 := Lib.hid hi3
      have HV3 := Lib.hid hv3
      have HMD := Lib.hid hmd
      clear hA hX S t hv3 hi3 hmd HI HV hc0
      rcases HR.out.keep S3.out.bel with e | ⟨b2, o2, e2, -, hc⟩
      · omega
      cases e2
      obtain ⟨hc0, -⟩ := hc k hlt
      clear hc
      have hM := Mode_any (z k) gp w3 (bk_of S3.out) hw0 HK.out
      rw [HMD.out] at hM
      unfold bPtr at hM
      go_wp2_with fail
      refine hM.mono ?_
      rintro e w4 ⟨rfl, hww⟩
      rw [hww]
      clear hww w4 hM
      by_cases hq : (k : Int) % 7 = (K : Int)
      · have hqb : ((k : Int) % 7 == (K : Int)) = true := by simp [hq]
        clear hq
        go_wp2_with fail
        have hA := Drop_st (id := z k) w w3 _ S3.out HT.out hw0 HV3.out (by omega)
        unfold bPtr at hA
        refine hA.mono ?_
        rintro e w5 ⟨vd, rfl, Hd, H5, L5, W5, s, hp, t, hX⟩
        have hv5 := t.inv (HV3.out.drop hp)
        obtain ⟨rfl, rfl, rfl, hi5, hmd5⟩ := in_drop HI3.out hp t
        obtain ⟨A5, c5, rfl⟩ := hX.vec.slice
        have S5 := Lib.hid hX.right
        have HI5 := Lib.hid hi5
        have HV5 := Lib.hid hv5
        have HMD5 := Lib.hid hmd5
        clear hA hX S3 t hv5 hi5 hmd5 HI3 HV3 hc0 hp HMD
        rcases HR.out.keep S5.out.bel with e | ⟨b2, o2, e2, -, hc⟩
        · omega
        cases e2
        obtain ⟨hc0, -⟩ := hc k hlt
        clear hc
        have hM := Mode_any (z k) gp w5 (bk_of S5.out) hw0 HK.out
        rw [HMD5.out] at hM
        unfold bPtr at hM
        go_wp2_with fail
        refine hM.mono ?_
        rintro e w6 ⟨rfl, hww⟩
        rw [hww]
        clear hww w6 hM
        go_wp2_with fail
        go_roundw
        case rel => exact ⟨k + 1, H5, by omega, by go_num, HI5, HV5, S5⟩
        case measure => simp [intOf]; omega
      · have hqb : ((k : Int) % 7 == (K : Int)) = false := by simp [hq]
        clear hq
        go_wp2_with fail
        go_roundw
        case rel => exact ⟨k + 1, H3, by omega, by go_num, HI3, HV3, S3⟩
        case measure => simp [intOf]; omega
    · clear HI HV hK
      have B0 := Lib.hid S.out.bel
      clear S
      have HN1 := Lib.hid (fun s s2 W => inherit_nil s s2 W)
      have HN2 := Lib.hid (fun W => waits_nil 1 W)
      have HN3 := Lib.hid (fun s W => ask_nil 1 3 s W)
      have HN4 := Lib.hid (fun W => drop_nil 1 W)
      have HN5 := Lib.hid (fun W => cancel_nil 1 W)
      have HN6 := Lib.hid (fun W => held_nil 1 W)
      have HN7 := Lib.hid (fun W => blockers_nil 1 W)
      have HN8 := Lib.hid (fun s W => mode_nil 1 s W)
      have HN9 := Lib.hid (fun W => count_nil W)
      have HN10 := Lib.hid (fun s W => used_nil s W)
      unfold noB at HN1 HN2 HN3 HN4 HN5 HN6 HN7 HN8 HN9 HN10
      go_wp2_with fail
      refine (HN1.out _ _ _).mono ?_
      rintro e w' ⟨rfl, rfl⟩
      go_wp2_with fail
      refine (HN2.out _).mono ?_
      rintro e w3 ⟨rfl, hX⟩
      have S3 := Lib.hid ((Own.of_below (bl B0.out hX)).alloc #[.string ⟨#[]⟩, .int .i64 0] 32)
      clear hX B0
      go_wp2_with fail
      refine (HN3.out _ _).mono ?_
      rintro e w' ⟨rfl, hww⟩
      rw [hww]
      clear hww w'
      have B3 := Lib.hid S3.out.bel
      clear S3
      generalize w3.alloc _ = w4 at *
      go_wp2_with fail
      refine (HN4.out _).mono ?_
      rintro e w' ⟨rfl, rfl⟩
      go_wp2_with fail
      refine (HN5.out _).mono ?_
      rintro e w' ⟨rfl, rfl⟩
      go_wp2_with fail
      refine (HN6.out _).mono ?_
      rintro e w5 ⟨rfl, hX⟩
      have B5 := Lib.hid (bl B3.out hX)
      clear hX B3
      go_wp2_with fail
      refine (HN7.out _).mono ?_
      rintro e w6 ⟨rfl, hX⟩
      have B6 := Lib.hid (bl B5.out hX)
      clear hX B5
      go_wp2_with fail
      refine (HN8.out _ _).mono ?_
      rintro e w' ⟨rfl, rfl⟩
      go_wp2_with fail
      refine (HN9.out _).mono ?_
      rintro e w' ⟨rfl, rfl⟩
      go_wp2_with fail
      refine (HN10.out _ _).mono ?_
      rintro e w' ⟨rfl, rfl⟩
      go_wp2_with fail
      go_returns
      exact ⟨rfl, B6.out⟩
end Go.Proofs.YtikdjgholjealaaGreatDoor.Lk
