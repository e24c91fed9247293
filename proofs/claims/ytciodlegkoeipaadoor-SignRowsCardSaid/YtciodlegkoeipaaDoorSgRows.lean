import Derived.Test.YtciodlegkoeipaaDoorSgZz


namespace Go.Proofs.YtciodlegkoeipaaDoor.Sg
open Go.ChangeShapes Go.WideShapes Go.ChangeAt Go.RowKit Go.PlainAid
set_option linter.unusedVariables false
set_option linter.unusedSimpArgs false

set_option maxHeartbeats 400000 in
theorem rows_long (A : Option Addr) (ca n : Nat) (s : ByteArray) (w : World) (hl : n ≤ maxLen) (hs : s.size ≤ maxLen) (h : 10 < n ∨ 100 < s.size) :
    Calls Tryd.prog 4 #[.slice A n ca, .string s] w fun e w' => e = .returned (.bool true) ∧ Below w.heap.size w w' := by
  unfold maxLen at hl hs
  have hc : 10 < n ∨ (n ≤ 10 ∧ 100 < s.size) := by omega
  clear h
  rcases hc with h | ⟨ha, h⟩
  all_goals
    go_enter Tryd.func4, Tryd.ntmps4
    go_wp2_with fail
    refine (awake_any _).mono ?_
    rintro e w1 ⟨rfl, hb1⟩
    go_wp2_with fail
    go_returns
    exact ⟨rfl, hb1⟩

set_option maxHeartbeats 4000000 in
theorem rows_short (A : Option Addr) (ca : Nat) (l : List V) (s : ByteArray) (w : World) (hl : l.length ≤ 10) (hs : s.size ≤ 100) (hi : ∀ v ∈ l, inV v) (hr : VReads w A l) (ro : Option (List UInt8)) (hro : rowO l = ro) (rr : Option (List V)) (hrr : rdRow s = rr) :
    Calls Tryd.prog 4 #[.slice A l.length ca, .string s] w fun e w' => e = .returned (.bool true) ∧ Below w.heap.size w w' := by
  have HR := Lib.hid hr
  have HI := Lib.hid hi
  have HRO := Lib.hid (fun w hr => Row_any A ca l w (by unfold maxLen; omega) hi hr)
  have HRQ := Lib.hid (fun w hr => refRow_any A ca l w (by unfold maxLen; omega) hi hr)
  have HRR := Lib.hid (fun w => ReadRow_any s w (by unfold maxLen; omega))
  have HRT := Lib.hid (fun w => refReadRow_any s w (by unfold maxLen; omega))
  have HSM := Lib.hid (fun (l : List V) (h : l.length ≤ 4) A B ca cb w ha hb => Same_eq A B ca cb l w (by unfold maxLen; omega) ha hb)
  have HBK := Lib.hid (fun m (h : rr = some m) => (rdRow_back s m (hrr.trans h)).2.2.1)
  rw [hro] at HRO HRQ
  rw [hrr] at HRR HRT
  generalize hn : l.length = n at *
  have HN := Lib.hid hn
  clear hr hi hn hro hrr
  go_enter Tryd.func4, Tryd.ntmps4
  go_wp2_with fail
  refine (awake_any _).mono ?_
  rintro e w1 ⟨rfl, hb1⟩
  have HB1 := Lib.hid hb1
  clear hb1
  go_wp2_with fail
  go_loopw [5] (fun i wr => ∃ (k : Nat), k ≤ n ∧ i = .int .i64 k ∧ Hid (Below w.heap.size w wr)) (fun i _ => n - (intOf i).toNat)
  case atStart => exact ⟨0, by omega, rfl, HB1.out⟩
  case round =>
    obtain ⟨k, hk, rfl, hB⟩ := hrel
    by_cases hlt : k < n
    · have hv : l[k]? = some (l[k]'(by have := HN.out; omega)) := List.getElem?_eq_getElem _
      generalize l[k]'(by have := HN.out; omega) = v at *
      have hmem : v ∈ l := List.mem_of_getElem? hv
      have hin := (HI.out v hmem).2.2
      have hne : l ≠ [] := by intro e; rw [e] at hv; cases hv
      have hrd := HR.out.keep hB.out
      obtain ⟨b, off, rfl, hlt', hcells⟩ := hrd hne
      obtain ⟨x0, x1, x2⟩ := hcells k v hv
      obtain ⟨k0, n0, s0⟩ := v
      unfold maxLen at hin
      simp only at hin
      have kk : (0 : Int) ≤ (k : Int) := by omega
      have kt : (k : Int).toNat = k := by simp
      clear hcells hv hmem hne hrd
      go_wp2_with fail
      · go_returns
        exact ⟨rfl, hB.out⟩
      · go_roundw
        case rel => exact ⟨k + 1, by omega, by go_num, hB⟩
        case measure => simp [intOf]; omega
    · obtain rfl : k = n := by omega
      have HRO1 := Lib.hid (HRO.out wr (HR.out.keep hB.out))
      go_wp2_with fail
      refine HRO1.out.mono ?_
      rintro e w2 ⟨rfl, hb2⟩
      have HB2 := Lib.hid (bl hB.out hb2)
      clear hb2
      have HRQ1 := Lib.hid (HRQ.out w2 (HR.out.keep HB2.out))
      cases ro
      all_goals
        unfold rowV
        unfold refRowV at HRQ1
        simp only [] at HRQ1
        go_wp2_with fail
        refine HRQ1.out.mono ?_
        rintro e w3 ⟨rfl, hb3⟩
        have HB3 := Lib.hid (bl HB2.out hb3)
        clear hb3
        go_wp2_with fail
        refine (HRR.out _).mono ?_
        rintro e w4 ⟨hb4, hp4⟩
        have HB4 := Lib.hid (bl HB3.out hb4)
        clear hb4
        cases rr with
        | none =>
          obtain rfl := hp4
          go_wp2_with fail
          refine (HRT.out _).mono ?_
          rintro e w5 ⟨hb5, hp5⟩
          obtain rfl := hp5
          go_wp2_with fail
          go_returns
          exact ⟨rfl, bl HB4.out hb5⟩
        | some m =>
          obtain ⟨v, rfl, hown, hnil⟩ := hp4
          obtain ⟨A2, c2, rfl, hvr⟩ := VReads_own2 hown
          have HV4 := Lib.hid hvr
          have hm4 := HBK.out m rfl
          clear hown hnil hvr
          go_wp2_with fail
          refine (HRT.out _).mono ?_
          rintro e w5 ⟨hb5, hp5⟩
          obtain ⟨v5, rfl, hown5⟩ := hp5
          obtain ⟨A3, c3, rfl, hvr5⟩ := VReads_own2 hown5
          have HV4' := Lib.hid (HV4.out.keep hb5)
          have HV5 := Lib.hid hvr5
          have HB5 := Lib.hid (bl HB4.out hb5)
          have HSM1 := Lib.hid (HSM.out m hm4 A2 A3 c2 c3 w5 HV4'.out HV5.out)
          clear hown5 hvr5 hb5
          generalize m.length = mm at *
          go_wp2_with fail
          refine HSM1.out.mono ?_
          rintro e w6 ⟨rfl, hb6⟩
          go_wp2_with fail
          go_returns
          exact ⟨rfl, bl HB5.out hb6⟩
end Go.Proofs.YtciodlegkoeipaaDoor.Sg
