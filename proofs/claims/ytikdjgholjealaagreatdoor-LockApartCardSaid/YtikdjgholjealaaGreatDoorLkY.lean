/- Serving all lines. -/
import Derived.Test.YtikdjgholjealaaGreatDoorLkX
import Derived.Test.YtikdjgholjealaaGreatDoorLkT
import Derived.Test.YtikdjgholjealaaGreatDoorLkJ
import Derived.Test.YtikdjgholjealaaGreatDoorLkI
namespace Go.Proofs.YtikdjgholjealaaGreatDoor.Lk
open Go.ChangeShapes Go.WideShapes Go.ChangeAt Go.RowKit Go.PlainAid Aid Md
open Go.Shelf
set_option linter.unusedVariables false
set_option linter.unusedSimpArgs false
/-- What the steps of a service ask of a book. -/
structure OkS (H : List Hol) (L : List Lin) (W : List Wan) : Prop where
  hl : ∀ x, x ∈ H → x.2.2.length ≤ 100000
  hH : H.length ≤ 100000
  ln : ∀ name, (ids L name).length ≤ 100000
  lL : L.length ≤ 100000
  li : ∀ name o, o ∈ ids L name → I64w o
  wn : ∀ o, (wV W o).1.length ≤ 1000
  lw : ∀ name o, o ∈ ids L name → ∃ m, wanL W o = some (o, name, m)
def lenS (v : Value) : Nat := match v with | .slice _ n _ => n | _ => 0
theorem nxN_mem {f : Int → List Int → Bool} {a : Int} : ∀ (l pre : List Int), nxN f pre l = some a → a ∈ l
  | [], _, h => by cases h
  | b :: l, pre, h => by
    unfold nxN at h
    split at h
    · cases h; exact List.mem_cons_self
    · exact List.mem_cons_of_mem _ (nxN_mem l _ h)
theorem offW_lt {W : List Wan} {id : Int} {y : Wan} (h : wanL W id = some y) : (offW W id).length < W.length := by
  unfold wanL at h
  have hy := List.mem_of_find?_eq_some h
  have hp := List.find?_some h
  unfold offW
  refine List.length_filter_lt_length_iff_exists.2 ⟨y, hy, by simpa using hp⟩
def nmv (L : List Lin) : List Value := (namesL L).map fun x => .string (ofL x)
section
variable {bb h l wt : Nat} {H : List Hol} {L : List Lin} {W : List Wan}
set_option maxRecDepth 100000 in
set_option maxHeartbeats 8000000 in
theorem serve_any (w0 w : World) (C : Asn) (hS : Aid.Own w0 No w (aBk bb h l wt H L W * C)) (ht : Tabs w0) (hn : ∀ x, x ∈ L → x.1.length ≤ 1000) (hL : L.length ≤ 100000) (hW : W.length ≤ 100000)
    (J : Nat → List Hol → List Lin → List Wan → List Int → Prop) (hJ0 : J 0 H L W [])
    (hok : ∀ k H L W s, J k H L W s → OkS H L W)
    (hstep : ∀ k H' L' W' s id nb v, k < L.length → J k H' L' W' s → nxL H' L' W' ((namesL L).getD k []) = some id → J k (setH H' id ((namesL L).getD k []) (wV W' id).2 nb) (lvB L' id ((namesL L).getD k []) v) (offW W' id) (s ++ [id]))
    (hnext : ∀ k H' L' W' s, k < L.length → J k H' L' W' s → nxL H' L' W' ((namesL L).getD k []) = none → J (k + 1) H' L' W' s) :
    Calls Tryz.prog 31 #[bPtr bb] w fun e w' => ∃ v H' L' W' s, e = .returned v ∧ J L.length H' L' W' s ∧ Aid.Own w0 No w' (Asn.vec 3 1 v s.length (nums s) * (aBk bb h l wt H' L' W' * C)) := by
  have k0 := bk_of hS
  have c0 : w.cell? ⟨bb, 1, none⟩ = some (.map (some l)) := k0.blk.cell 1
  have HT := Lib.hid ht
  have HSTEP := Lib.hid hstep
  have HNEXT := Lib.hid hnext
  have HOK := Lib.hid hok
  have S0 := Lib.hid (hS.alloc #[.map (some l)] 49)
  have HNL : Hid (∀ k, k < L.length → ((namesL L).getD k []).length ≤ 1000) := Lib.hid (fun k hk => by
    have hp : (namesL L).Perm (L.map (·.1)) := List.mergeSort_perm _ _
    have hlen : k < (namesL L).length := by rw [hp.length_eq, List.length_map]; exact hk
    rw [List.getD_eq_getElem?_getD, List.getElem?_eq_getElem hlen]
    obtain ⟨x, hx, e⟩ := List.mem_map.1 (hp.mem_iff.1 (List.getElem_mem hlen))
    show ((namesL L)[k]).length ≤ 1000
    rw [← e]
    exact hn x hx)
  have HNC : Hid (∀ k, k < L.length → (nmv L)[k]? = some (.string (ofL ((namesL L).getD k [])))) := Lib.hid (fun k hk => by
    have hp : (namesL L).Perm (L.map (·.1)) := List.mergeSort_perm _ _
    have hlen : k < (namesL L).length := by rw [hp.length_eq, List.length_map]; exact hk
    unfold nmv
    rw [List.getElem?_map, List.getD_eq_getElem?_getD, List.getElem?_eq_getElem hlen]
    rfl)
  clear hS ht hstep hnext hok hn
  unfold bPtr at *
  go_enter Tryz.func31, Tryz.ntmps31
  go_wp2_with fail
  refine (keys_any _ _).mono ?_
  rintro e w1 ⟨rfl, hw1⟩
  rw [hw1]
  clear hw1
  go_wp2_with fail
  refine (names_any w k0 hL).mono ?_
  rintro e w2 ⟨nv, rfl, hrow, hb⟩
  have S1 := Lib.hid ((S0.out.newVec hb (ownsRow_base_a hrow (Nat.zero_le _)) (fun k hk => (World.ownsRow.lt hrow k hk).1)).re (show _ = Asn.blk w.heap.size 49 #[.map (some l)] * (Asn.vec 9 1 nv L.length (nmv L) * (aBk bb h l wt H L W * C)) by unfold nmv; ac_rfl))
  have S2 := Lib.hid ((S1.out.right.nilVec 3 1))
  clear S0 S1 hrow hb k0 c0
  generalize (namesL L) = ns at *
  generalize nmv L = nmc at *
  obtain ⟨A, c, rfl⟩ := S2.out.right.vec.slice
  go_wp2_with fail
  go_loopw [3, 5, 6, 7, 15] (fun sv _ _ _ i wr => ∃ (k : Nat) (H' : List Hol) (L' : List Lin) (W' : List Wan) (s : List Int), i = .int .i64 k ∧ k ≤ L.length ∧ J k H' L' W' s ∧ s.length + W'.length ≤ W.length ∧ Hid (Aid.Own w0 No wr (Asn.vec 3 1 sv s.length (nums s) * (Asn.vec 9 1 (.slice A L.length c) L.length nmc * (aBk bb h l wt H' L' W' * C))))) (fun _ _ _ _ i _ => L.length - (intOf i).toNat)
  case atStart => exact ⟨0, H, L, W, [], rfl, Nat.zero_le _, hJ0, by simp, S2⟩
  case round =>
    clear S2 hJ0
    obtain ⟨k, H', L', W', s, rfl, hk, hJ, hsl, S⟩ := hrel
    by_cases hlt : k < L.length
    · obtain ⟨b, rfl⟩ : ∃ b, A = some ⟨b, 0, none⟩ := by
        rcases S.out.right.vec.forms with ⟨-, hz⟩ | ⟨g, cap, he, -⟩
        · omega
        · cases he; exact ⟨_, rfl⟩
      have hcell := S.out.right.vec.cell (HNC.out k hlt)
      have hnl := HNL.out k hlt
      obtain ⟨nm, hnm⟩ : ∃ x, x = ns.getD k [] := ⟨_, rfl⟩
      rw [← hnm] at hcell hnl
      have HNM := Lib.hid hnm
      clear hnm
      have ok := HOK.out _ _ _ _ _ hJ
      go_wp2_with fail
      refine (next_any nm wr (bk_of S.out.right.right) (HT.out.keep S.out.bel) hnl (ok.ln nm) (ok.li nm) ok.wn).mono ?_
      rintro e w3 ⟨rfl, hX⟩
      have S3 := Lib.hid (S.out.below hX)
      clear S hX ok hcell
      go_wp2_with fail
      go_loopw [3, 6, 7] (fun sv a bq wr => ∃ (H2 : List Hol) (L2 : List Lin) (W2 : List Wan) (s2 : List Int), a = .int .i64 ((nxL H2 L2 W2 nm).getD 0) ∧ bq = .bool (nxL H2 L2 W2 nm).isSome ∧ J k H2 L2 W2 s2 ∧ s2.length + W2.length ≤ W.length ∧ Hid (Aid.Own w0 No wr (Asn.vec 3 1 sv s2.length (nums s2) * (Asn.vec 9 1 (.slice (some ⟨b, 0, none⟩) L.length c) L.length nmc * (aBk bb h l wt H2 L2 W2 * C))))) (fun sv _ _ _ => W.length - lenS sv)
      case atStart => exact ⟨H', L', W', s, rfl, rfl, hJ, hsl, S3⟩
      case round =>
        clear S3 hJ hsl
        obtain ⟨H2, L2, W2, s2, rfl, rfl, hJ, hsl, S⟩ := hrel
        cases hnx : nxL H2 L2 W2 nm with
        | none =>
          have hJ2 := HNEXT.out k _ _ _ _ hlt hJ (by rw [← HNM.out]; exact hnx)
          go_wp2_with fail
          go_roundw
          case rel => exact ⟨k + 1, H2, L2, W2, s2, by go_num, by omega, hJ2, hsl, S⟩
          case measure => simp [intOf]; omega
        | some id =>
          have ok := HOK.out _ _ _ _ _ hJ
          have hid : id ∈ ids L2 nm := nxN_mem _ _ hnx
          obtain ⟨m, hwl⟩ := ok.lw nm id hid
          have hwv : wV W2 id = (nm, m) := by unfold wV; rw [hwl]
          have hI := ok.li nm id hid
          have e1 := (bk_of S.out.right.right).look_w id hI
          have hlt2 := offW_lt hwl
          rw [hwv] at e1
          have c2 : wr.cell? ⟨bb, 2, none⟩ = some (.map (some wt)) := (bk_of S.out.right.right).blk.cell 2
          have hJs := fun nb v => HSTEP.out k _ _ _ _ id nb v hlt hJ (by rw [← HNM.out]; exact hnx)
          rw [← HNM.out, hwv] at hJs
          obtain ⟨A', c', hsv⟩ := S.out.vec.slice
          subst hsv
          have S4 := Lib.hid (S.out.re (show _ = aBk bb h l wt H2 L2 W2 * (Asn.vec 3 1 (.slice A' s2.length c') s2.length (nums s2) * (Asn.vec 9 1 (.slice (some ⟨b, 0, none⟩) L.length c) L.length nmc * C)) by ac_rfl))
          have HJS := Lib.hid hJs
          have HOI := Lib.hid ok
          have HWL := Lib.hid hwl
          have HID := Lib.hid hid
          clear S hJs hwv hnx ok hwl hid
          simp only [Option.getD_some, Option.isSome_some]
          go_wp2_with fail
          refine (hold_any id m nm w0 wr _ S4.out hI hnl HOI.out.hl HOI.out.hH).mono ?_
          rintro e w5 ⟨rfl, nb, hX⟩
          have S5 := Lib.hid hX
          clear hX S4 e1 c2
          go_wp2_with fail
          refine (leave_any (id, nm, m) id w0 w5 _ S5.out hI HWL.out hnl (HOI.out.ln nm) HOI.out.lL HID.out).mono ?_
          rintro e w6 ⟨rfl, v, hX⟩
          have S6 := Lib.hid (hX.alloc #[.int .i64 id] 3)
          have S7 := Lib.hid (S6.out.re (show _ = Asn.vec 3 1 (.slice A' s2.length c') s2.length (nums s2) * (Asn.blk w6.heap.size 3 #[.int .i64 id] * (aBk bb h l wt (setH H2 id nm m nb) (lvB L2 id nm v) (offW W2 id) * (Asn.vec 9 1 (.slice (some ⟨b, 0, none⟩) L.length c) L.length nmc * C))) by ac_rfl))
          have hbk := S6.out.has (Has.l (has_blk _ _ _))
          have CX : Hid (Src Tryz.prog 1 37 (.slice (some ⟨w6.heap.size, 0, none⟩) 1 1) 1 [.int .i64 id] (w6.alloc (.cells #[.int .i64 id] 3))) := Lib.hid (Src.ofSlice _ Tryz.underlying37 ⟨w6.heap.size, 0, none⟩ 1 1 [.int .i64 id] rfl (fun j u hj => by
            rw [Addr.add_lit, Nat.zero_add, hbk.cell]
            simpa using hj) (fun u hu => by rw [List.mem_singleton.1 hu]; rfl))
          have hs3 : s2.length ≤ 100000 := by omega
          clear S5 S6 hX hbk
          go_wp2_with (with_reducible refine wpList_append_vec rfl (.tmp 44) (.tmp 46) 37 37 rfl 3 _ 1 8 Tryz.underlying37 info_int ?c1 ?c2 (.slice A' s2.length c') s2.length (nums s2) ?c7 S7.out.vec (.slice (some ⟨w6.heap.size, 0, none⟩) 1 1) ?c8 1 _ CX.out ?c3 ?c4 ?_)
          case c1 => rfl
          case c2 => decide
          case c3 => unfold maxLen; omega
          case c4 => omega
          case c7 => rfl
          case c8 => rfl
          intro v' w7 hv hc hf5
          have S8 := S7.out.app hv hc hf5
          obtain ⟨A5, c5, rfl⟩ := hv.slice
          have hnn : nums s2 ++ [.int .i64 id] = nums (s2 ++ [id]) := by unfold nums; rw [List.map_append]; rfl
          have hll : s2.length + 1 = (s2 ++ [id]).length := by rw [List.length_append]; rfl
          rw [hnn] at S8
          have S9 := Lib.hid ((S8.re (show _ = Asn.blk w6.heap.size 3 #[.int .i64 id] * (Asn.vec 3 1 (.slice A5 (s2.length + 1) c5) (s2.length + 1) (nums (s2 ++ [id])) * (Asn.vec 9 1 (.slice (some ⟨b, 0, none⟩) L.length c) L.length nmc * (aBk bb h l wt (setH H2 id nm m nb) (lvB L2 id nm v) (offW W2 id) * C))) by ac_rfl)).right)
          have ok2 := HOK.out _ _ _ _ _ (HJS.out nb v)
          have HLF := Lib.hid hll
          clear S7 S8 CX hv hc hf5 hnn hll
          go_wp2_with fail
          refine (next_any nm w7 (bk_of S9.out.right.right) (HT.out.keep S9.out.bel) hnl (ok2.ln nm) (ok2.li nm) ok2.wn).mono ?_
          rintro e w8 ⟨rfl, hX⟩
          have S10 := S9.out.below hX
          have hll := HLF.out
          rw [hll] at S10
          have S11 := Lib.hid S10
          have HLE := Lib.hid hll
          clear S9 S10 hX ok2 hll
          go_wp2_with fail
          go_roundw
          case rel => exact ⟨_, _, _, _, rfl, rfl, HJS.out nb v, by rw [← HLE.out]; omega, by rw [← HLE.out] at S11; rw [← HLE.out]; exact S11⟩
          case measure =>
            show W.length - (s2.length + 1) < W.length - s2.length
            omega
    · have hke : k = L.length := by omega
      subst hke
      go_wp2_with fail
      go_returns
      exact ⟨_, H', L', W', s, rfl, hJ, (S.out.re (show _ = Asn.vec 9 1 (.slice A L.length c) L.length nmc * (Asn.vec 3 1 _ s.length (nums s) * (aBk bb h l wt H' L' W' * C)) by ac_rfl)).right⟩
end
end Go.Proofs.YtikdjgholjealaaGreatDoor.Lk
