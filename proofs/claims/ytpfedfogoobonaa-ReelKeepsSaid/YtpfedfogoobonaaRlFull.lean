import Derived.Test.YtpfedfogoobonaaRlD
namespace Go.Proofs.Ytpfedfogoobonaa.Rl
open Go.ChangeShapes Go.WideShapes Go.ChangeAt Go.RowKit Go.PlainAid Aid Mn
set_option linter.unusedVariables false
set_option linter.unusedSimpArgs false

def idle : Pw := ⟨true, -1, 1⟩
theorem idle_use : idle.use = idle := rfl
theorem full_big (n : Int) (A : Option Addr) (m c : Nat) (w : World) (h : 40 < m) (hm : m ≤ maxLen) :
    Calls Try.prog 5 #[.int .i64 n, .slice A m c] w fun e w' => e = .returned (.bool true) ∧ Below w.heap.size w w' := by
  unfold maxLen at hm
  go_enter Try.func5, Try.ntmps5
  go_wp2_with fail
  refine (awake_any _).mono ?_
  rintro e w0 ⟨rfl, hb⟩
  have B0 := Lib.hid (hb)
  clear hb 
  go_wp2_with fail
  go_returns
  exact ⟨rfl, B0.out⟩
set_option maxRecDepth 100000 in
set_option maxHeartbeats 1000000 in
theorem full_any (n : Int) (A : Option Addr) (m1 c : Nat) (S : Nat → ByteArray) (w : World) (h : m1 ≤ 40) (x1 : StrRow w A m1 S) :
    Calls Try.prog 5 #[.int .i64 n, .slice A m1 c] w fun e w' => e = .returned (.bool true) ∧ Below w.heap.size w w' := by
  have X1 := Lib.hid x1
  obtain ⟨K, hK, hK5⟩ := mod_u n 500 (by decide) (by decide)
  have hnr : nearR K = K := by unfold nearR; omega
  have HNR := Lib.hid hnr
  clear x1 hnr
  go_enter Try.func5, Try.ntmps5
  go_wp2_with fail
  refine (awake_any _).mono ?_
  rintro e w0 ⟨rfl, hb⟩
  have B0 := Lib.hid (hb)
  clear hb 
  go_wp2_with fail
  refine (Mn.New_any _).mono ?_
  rintro e w1 ⟨rfl, hm1, hb1⟩
  go_wp2_with fail
  have hb2 := bl B0.out hb1
  have hmB := B0.out.size
  refine (Rm.new hb2 hm1 hmB K).mono ?_
  rintro e w2 ⟨rfl, h2⟩
  rw [HNR.out] at h2
  have H2 : Hid (Rm w w2 w1.heap.size w0.heap.size K ⟨#[]⟩ 0 idle) := h2
  clear h2 hm1 hb1 hb2 hmB B0 HNR
  generalize w1.heap.size = g at *
  generalize w0.heap.size = m at *
  go_wp2_with fail
  go_loopw [7, 8] (fun all i wr => ∃ (r : Nat) (a : ByteArray), r ≤ m1 ∧ all = .string a ∧ i = .int .i64 r ∧ a.size ≤ K ∧ Hid (Rm w wr g m K a 0 idle)) (fun _ i _ => m1 - (intOf i).toNat)
  case atStart => exact ⟨0, _, Nat.zero_le _, rfl, rfl, Nat.zero_le _, H2⟩
  case round =>
    clear H2
    obtain ⟨r, a, hr, rfl, rfl, ha, hR⟩ := hrel
    by_cases hlt : r < m1
    · obtain ⟨ba, oa, rfl, hba, hca, hsz⟩ := X1.out.at r hlt _ hR.out.bel
      generalize S r = s at *
      unfold maxLen at hsz
      by_cases h100 : s.size ≤ 100
      · by_cases hfit : a.size + s.size ≤ K
        · have HA := Lib.hid (hR.out.append_ok s (by omega) rfl)
          go_wp2_with fail
          refine HA.out.mono ?_
          rintro e w3 ⟨rfl, h3⟩
          have H3 : Hid (Rm w w3 g m K (a ++ s) 0 idle) := h3
          have hsum : (a ++ s).size = a.size + s.size := by simp
          clear h3 HA hR
          go_wp2_with fail
          go_roundw
          case rel => exact ⟨r + 1, a ++ s, by omega, rfl, by go_num, by omega, H3⟩
          case measure => simp [intOf]; omega
        · have HA := Lib.hid (hR.out.append_full s (by omega))
          go_wp2_with fail
          refine HA.out.mono ?_
          rintro e w3 ⟨rfl, h3⟩
          have H3 := Lib.hid h3
          clear h3 HA hR
          go_wp2_with fail
          go_roundw
          case rel => exact ⟨r + 1, a, by omega, rfl, by go_num, ha, H3⟩
          case measure => simp [intOf]; omega
      · have HB := Lib.hid hR.out.bel
        clear hR
        go_wp2_with fail
        go_returns
        exact ⟨rfl, HB.out⟩
    · go_wp2_with fail
      refine (hR.out.read_on rfl).mono ?_
      rintro e w' ⟨rfl, rfl⟩
      go_wp2_with fail
      refine hR.out.left.mono ?_
      rintro e w' ⟨rfl, k, rfl⟩
      go_wp2_with fail
      refine (hR.out.drewN k).safeN.mono ?_
      rintro e w' ⟨rfl, rfl⟩
      have HB := Lib.hid (hR.out.drewN k).bel
      clear hR
      go_wp2_with fail
      go_returns
      exact ⟨rfl, HB.out⟩
end Go.Proofs.Ytpfedfogoobonaa.Rl
