import Derived.Test.YtpfedfogoobonaaRlFull
namespace Go.Proofs.Ytpfedfogoobonaa.Rl
open Go.ChangeShapes Go.WideShapes Go.ChangeAt Go.RowKit Go.PlainAid Aid Mn
set_option linter.unusedVariables false
set_option linter.unusedSimpArgs false

theorem keeps_big (A : Option Addr) (m c : Nat) (n k : Int) (w : World) (h : 20 < m) (hm : m ≤ maxLen) :
    Calls Try.prog 4 #[.slice A m c, .int .i64 n, .int .i64 k] w fun e w' => e = .returned (.bool true) ∧ Below w.heap.size w w' := by
  unfold maxLen at hm
  go_enter Try.func4, Try.ntmps4
  go_wp2_with fail
  refine (awake_any _).mono ?_
  rintro e w0 ⟨rfl, hb⟩
  have B0 := Lib.hid (hb)
  clear hb 
  go_wp2_with fail
  go_returns
  exact ⟨rfl, B0.out⟩
theorem extract_app (a s : ByteArray) (f : Nat) (hf : f ≤ a.size) : (a ++ s).extract 0 f = a.extract 0 f := by
  refine bt_ext _ _ f (by simp; omega) (by simp; omega) (fun i hi => ?_)
  rw [bt_extract, bt_extract, if_pos (by omega), if_pos (by omega)]
  rw [bt_list, bt_list, ByteArray.data_append, Array.toList_append, List.getD, List.getD, List.getElem?_append_left (by rw [← Lib.size_eq]; omega)]
theorem extract_self (a : ByteArray) (k : Nat) (hk : k ≤ a.size) : a.extract 0 (a.extract 0 k).size = a.extract 0 k := by
  rw [show (a.extract 0 k).size = k by simp; omega]
set_option maxRecDepth 100000 in
set_option maxHeartbeats 2000000 in
theorem keeps_any (A : Option Addr) (m1 c : Nat) (n keep : Int) (S : Nat → ByteArray) (w : World) (h : m1 ≤ 20) (x1 : StrRow w A m1 S) :
    Calls Try.prog 4 #[.slice A m1 c, .int .i64 n, .int .i64 keep] w fun e w' => e = .returned (.bool true) ∧ Below w.heap.size w w' := by
  have X1 := Lib.hid x1
  clear x1
  go_enter Try.func4, Try.ntmps4
  go_wp2_with fail
  refine (awake_any _).mono ?_
  rintro e w0 ⟨rfl, hb⟩
  have B0 := Lib.hid (hb)
  clear hb 
  go_wp2_with fail
  refine (Mn.New_any _).mono ?_
  rintro e w1 ⟨rfl, hm1, hb1⟩
  go_wp2_with fail
  have hb2 := bl B0.out hb1
  have hmB := B0.out.size
  refine (Rm.new hb2 hm1 hmB 4096).mono ?_
  rintro e w2 ⟨rfl, h2⟩
  have H2 : Hid (Rm w w2 w1.heap.size w0.heap.size 4096 ⟨#[]⟩ 0 idle) := h2
  clear h2 hm1 hb1 hb2 hmB B0
  generalize w1.heap.size = g at *
  generalize w0.heap.size = m at *
  go_wp2_with fail
  go_loopw [9, 10, 11] (fun all safe i wr => ∃ (r : Nat) (a t : ByteArray) (f : Nat), r ≤ m1 ∧ all = .string a ∧ safe = .string t ∧ i = .int .i64 r ∧ a.size ≤ 50 * r ∧ Hid (t = a.extract 0 f) ∧ Hid (f ≤ a.size) ∧ Hid (Rm w wr g m 4096 a f idle)) (fun _ _ i _ => m1 - (intOf i).toNat)
  case atStart => exact ⟨0, ⟨#[]⟩, ⟨#[]⟩, 0, Nat.zero_le _, rfl, rfl, rfl, Nat.zero_le _, rfl, Nat.zero_le _, H2⟩
  case round =>
    clear H2
    obtain ⟨r, a, t, f, hr, rfl, rfl, rfl, ha, hT, hF, hR⟩ := hrel
    by_cases hlt : r < m1
    · obtain ⟨ba, oa, rfl, hba, hca, hsz⟩ := X1.out.at r hlt _ hR.out.bel
      generalize hs : S r = s at *
      unfold maxLen at hsz
      by_cases h50 : s.size ≤ 50
      · have hs' := hs
        clear hs
        have HA := Lib.hid (hR.out.append_ok s (by omega) rfl)
        go_wp2_with fail
        refine HA.out.mono ?_
        rintro e w3 ⟨rfl, h3⟩
        have H3 : Hid (Rm w w3 g m 4096 (a ++ s) f idle) := h3
        have hsum : (a ++ s).size = a.size + s.size := by simp
        have HX := Lib.hid (extract_app a s f hF.out)
        obtain ⟨ba2, oa2, he2, -, hca2, -⟩ := X1.out.at r hlt _ H3.out.bel
        cases he2
        rw [hs'] at hca2
        clear h3 HA hR hca hs'
        go_wp2_with fail
        · refine (H3.out.sync_ok rfl).mono ?_
          rintro e w4 ⟨rfl, h4⟩
          have H4 : Hid (Rm w w4 g m 4096 (a ++ s) (a ++ s).size idle) := h4
          clear h4 H3
          go_wp2_with fail
          go_roundw
          case rel => exact ⟨r + 1, a ++ s, a ++ s, (a ++ s).size, by omega, rfl, rfl, by go_num, by omega, (extract_all _).symm, Nat.le_refl _, H4⟩
          case measure => simp [intOf]; omega
        · go_roundw
          case rel => exact ⟨r + 1, a ++ s, t, f, by omega, rfl, rfl, by go_num, by omega, by rw [HX.out]; exact hT, by have := hF.out; show _ ≤ _; omega, H3⟩
          case measure => simp [intOf]; omega
      · have HB := Lib.hid hR.out.bel
        clear hR
        go_wp2_with fail
        go_returns
        exact ⟨rfl, HB.out⟩
    · obtain rfl : r = m1 := by omega
      go_wp2_with fail
      refine hR.out.off.mono ?_
      rintro e w3 ⟨rfl, h3⟩
      have H3 : Hid (Rm w w3 g m 4096 a f ⟨false, -1, 1⟩) := h3
      clear h3 hR
      go_wp2_with fail
      refine (H3.out.append_down _ (by show (1 : Int) ≤ _; omega) rfl).mono ?_
      rintro e w4 ⟨rfl, h4⟩
      have H4 : Hid (Rm w w4 g m 4096 a f ⟨false, -1, 1⟩) := h4
      clear h4 H3
      go_wp2_with fail
      refine (H4.out.sync_down rfl).mono ?_
      rintro e w5 ⟨rfl, h5⟩
      have H5 : Hid (Rm w w5 g m 4096 a f ⟨false, -1, 1⟩) := h5
      clear h5 H4
      go_wp2_with fail
      refine (H5.out.trim_down 0 (Nat.zero_le _) rfl).mono ?_
      rintro e w6 ⟨rfl, h6⟩
      have H6 : Hid (Rm w w6 g m 4096 a f ⟨false, -1, 1⟩) := h6
      clear h6 H5
      go_wp2_with fail
      refine (H6.out.settle keep rfl).mono ?_
      rintro e w7 ⟨rfl, h7⟩
      have hle := stayK_le keep (a.size - f)
      generalize stayK keep (a.size - f) = K at *
      have hsz : (a.extract 0 (f + K)).size = f + K := by have := hF.out; simp; omega
      have hts : t.size = f := by rw [hT.out]; have := hF.out; simp; omega
      have hfs : f + K ≤ a.size := by have := hF.out; omega
      generalize hself : a.extract 0 (f + K) = b at *
      have H7 := Lib.hid h7
      clear h7 H6
      go_wp2_with fail
      refine H7.out.on.mono ?_
      rintro e w8 ⟨rfl, h8⟩
      have H8 : Hid (Rm w w8 g m 4096 b (f + K) ⟨true, -1, 2⟩) := h8.cast rfl rfl rfl (by kernel_rfl)
      clear h8 H7
      go_wp2_with fail
      refine (H8.out.read_on rfl).mono ?_
      rintro e w' ⟨rfl, rfl⟩
      go_wp2_with fail
      refine H8.out.safeN.mono ?_
      rintro e w' ⟨rfl, rfl⟩
      go_wp2_with fail
      go_wp2_with fail
      refine (Read_nil _).mono ?_
      rintro e w' ⟨rfl, rfl⟩
      go_wp2_with fail
      refine (Append_nil _ _).mono ?_
      rintro e w' ⟨rfl, rfl⟩
      go_wp2_with fail
      refine (Sync_nil _).mono ?_
      rintro e w' ⟨rfl, rfl⟩
      go_wp2_with fail
      refine (Trim_nil _ _).mono ?_
      rintro e w' ⟨rfl, rfl⟩
      go_wp2_with fail
      refine (Settle_nil _ _).mono ?_
      rintro e w' ⟨rfl, rfl⟩
      go_wp2_with fail
      refine (Len_nil _).mono ?_
      rintro e w' ⟨rfl, rfl⟩
      go_wp2_with fail
      refine (Safe_nil _).mono ?_
      rintro e w' ⟨rfl, rfl⟩
      go_wp2_with fail
      refine (Left_nil _).mono ?_
      rintro e w' ⟨rfl, rfl⟩
      have B8 := Lib.hid H8.out.bel
      clear H8
      go_wp2_with fail
      go_returns
      exact ⟨rfl, B8.out⟩
end Go.Proofs.Ytpfedfogoobonaa.Rl
