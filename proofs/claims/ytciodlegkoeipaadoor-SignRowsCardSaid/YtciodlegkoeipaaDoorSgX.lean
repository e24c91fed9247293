import Derived.Test.YtciodlegkoeipaaDoorSgW
import Derived.Test.YtciodlegkoeipaaDoorSgOrd


namespace Go.Proofs.YtciodlegkoeipaaDoor.Sg
open Go.ChangeShapes Go.WideShapes Go.ChangeAt Go.RowKit Go.PlainAid
set_option linter.unusedVariables false
set_option linter.unusedSimpArgs false

def zeroT (e : Value) : Value := .tuple #[.agg #[.int .i64 0, .int .i64 0, .string ⟨#[]⟩], e]

theorem slice_to (s : ByteArray) (x : Int) (h0 : 0 ≤ x) (h1 : 1 + x ≤ s.size) (w : World) : (Instr.slice 9 (.string s) (some (.int .i64 1)) (some (.int .i64 (1 + x))) none).run Tryd.prog w = .ok (.string (s.extract 1 (1 + x.toNat))) w := by
  have := run_slice_string (P := Tryd.prog) w 9 s .i64 .i64 1 (1 + x) Tryd.underlying9 (by omega) (by omega) (by omega)
  rw [this, show (1 + x).toNat = 1 + x.toNat from by omega, show (1 : Int).toNat = 1 from rfl]
set_option maxHeartbeats 400000 in
theorem refRead_size (s : ByteArray) (w : World) (hm : s.size ≤ maxLen) (hs : ¬ s.size = 9) :
    Calls Tryd.prog 13 #[.string s] w fun e w' => e = .returned (zeroT (.bool false)) ∧ Below w.heap.size w w' := by
  unfold maxLen at hm
  have h9' : ((s.size : Int) != 9) = true := bne_iff_ne.2 (by omega)
  go_enter Tryd.func13, Tryd.ntmps13
  go_wp2_with fail
  go_returns
  exact ⟨rfl, by go_grown⟩
theorem refRead_kind (s : ByteArray) (w : World) (hs : s.size = 9) (h1 : ¬ bt s 0 = 1) (h2 : ¬ bt s 0 = 2) :
    Calls Tryd.prog 13 #[.string s] w fun e w' => e = .returned (zeroT (.bool false)) ∧ Below w.heap.size w w' := by
  have h9' : ((s.size : Int) != 9) = false := by rw [hs]; rfl
  have hb := get_bt s
  have ha : (bt s 0 == 1) = false := beq_eq_false_iff_ne.2 h1
  have hc : (bt s 0 == 2) = false := beq_eq_false_iff_ne.2 h2
  have b0 := bt_nonneg s 0
  have b1 := bt_le s 0
  have hs1 : s.size ≤ 9 := by omega
  have hs2 : 9 ≤ s.size := by omega
  clear hs h1 h2
  go_enter Tryd.func13, Tryd.ntmps13
  go_wp2_with fail
  go_returns
  exact ⟨rfl, by go_grown⟩
theorem refRead_long (s : ByteArray) (w : World) (hs : s.size = 9) (h2 : bt s 0 = 2) (h8 : 7 < bt s 8) :
    Calls Tryd.prog 13 #[.string s] w fun e w' => e = .returned (zeroT (.bool false)) ∧ Below w.heap.size w w' := by
  have h9' : ((s.size : Int) != 9) = false := by rw [hs]; rfl
  have hb := get_bt s
  have ha : (bt s 0 == 1) = false := by rw [h2]; rfl
  have hc : (bt s 0 == 2) = true := by rw [h2]; rfl
  have b0 := bt_nonneg s 0
  have b1 := bt_le s 0
  have b8 := bt_le s 8
  have hs1 : s.size ≤ 9 := by omega
  have hs2 : 9 ≤ s.size := by omega
  have H2 := Lib.hid h2
  clear hs h2
  go_enter Tryd.func13, Tryd.ntmps13
  go_wp2_with fail
  go_returns
  exact ⟨rfl, by go_grown⟩
set_option maxHeartbeats 400000 in
theorem refRead_text (s : ByteArray) (w : World) (t : ByteArray) (ht : t = s.extract 1 (1 + (bt s 8).toNat)) (hs : s.size = 9) (h2 : bt s 0 = 2) (h8 : bt s 8 ≤ 7) (q : Bool) (hq : ((codeS (bt s 0) 0 t).toList == s.toList) = q) :
    Calls Tryd.prog 13 #[.string s] w fun e w' => e = .returned (if q then (.tuple #[.agg #[.int .i64 (bt s 0), .int .i64 0, .string t], .bool true]) else zeroT (.bool false)) ∧ Below w.heap.size w w' := by
  have h9' : ((s.size : Int) != 9) = false := by rw [hs]; rfl
  have hb := get_bt s
  have ha : (bt s 0 == 1) = false := by rw [h2]; rfl
  have hc : (bt s 0 == 2) = true := by rw [h2]; rfl
  have b0 := bt_nonneg s 0
  have b1 := bt_le s 0
  have b8 := bt_nonneg s 8
  have hs1 : s.size ≤ 9 := by omega
  have hs2 : 9 ≤ s.size := by omega
  have hsl := slice_to s (bt s 8) (by omega) (by omega)
  rw [← ht] at hsl
  have hts : t.size ≤ 7 := by rw [ht]; simp [ByteArray.size_extract]; omega
  have HC := Lib.hid (fun w => refCode_any (bt s 0) 0 t w (by unfold maxLen; omega) (by decide) (by decide) (by unfold goodB; rw [decide_eq_true_iff]; right; exact ⟨h2, rfl, hts⟩))
  have H2 := Lib.hid h2
  have HS := Lib.hid hs
  have HQ := Lib.hid hq
  clear hs h2 ht hts hq
  go_enter Tryd.func13, Tryd.ntmps13
  go_wp2_with fail
  refine (HC.out _).mono ?_
  rintro e w1 ⟨rfl, hb1⟩
  obtain ⟨hc1, hf1⟩ := bcell hb1
  have c0 : w1.cell? ⟨w.heap.size, 0, none⟩ = some (.int .i64 0) := by rw [hc1 _ _ (by simp; omega)]; go_simp
  have c1 : w1.cell? ⟨w.heap.size, 1, none⟩ = some (.int .i64 0) := by rw [hc1 _ _ (by simp; omega)]; go_simp
  have c2 : w1.cell? ⟨w.heap.size, 2, none⟩ = some (.string ⟨#[]⟩) := by rw [hc1 _ _ (by simp; omega)]; go_simp
  have f0 : ∀ o, w1.frozen? ⟨w.heap.size, o, none⟩ = false := by intro o; rw [hf1 _ _ (by simp; omega)]; go_simp
  have hz := hb1.size
  simp at hz
  have d0 : w1.cell? ⟨w.heap.size + 1, 0, none⟩ = some (.int .i64 (bt s 0)) := by rw [hc1 _ _ (by simp)]; go_simp
  have d1 : w1.cell? ⟨w.heap.size + 1, 1, none⟩ = some (.int .i64 0) := by rw [hc1 _ _ (by simp)]; go_simp
  have d2 : w1.cell? ⟨w.heap.size + 1, 2, none⟩ = some (.string t) := by rw [hc1 _ _ (by simp)]; go_simp
  have HB1 := Lib.hid (bl (blA (blA (Below.refl w.heap.size w) _) _) hb1)
  clear hc1 hf1 hb1
  cases q
  · have hq1 := HQ.out
    have hq2 : (!((codeS (bt s 0) 0 t).toList == s.toList)) = true := by rw [hq1]; rfl
    generalize codeS (bt s 0) 0 t = cs at *
    go_wp2_with fail
    refine bodyPost_ret (v := zeroT (.bool false)) (by simp [zeroT, results, Tryd.results13, go_sem, c0, c1, c2]) rfl ⟨rfl, ?_⟩
    exact blC (blC (blC HB1.out (Nat.le_refl _) _) (Nat.le_refl _) _) (Nat.le_refl _) _
  · have hq1 := HQ.out
    have hq2 : (!((codeS (bt s 0) 0 t).toList == s.toList)) = false := by rw [hq1]; rfl
    generalize codeS (bt s 0) 0 t = cs at *
    go_wp2_with fail
    refine bodyPost_ret (v := .tuple #[.agg #[.int .i64 (bt s 0), .int .i64 0, .string t], .bool true]) (by simp [results, Tryd.results13, go_sem, c0, c1, c2]) rfl ⟨rfl, ?_⟩
    exact blC (blC (blC HB1.out (Nat.le_refl _) _) (Nat.le_refl _) _) (Nat.le_refl _) _

set_option maxHeartbeats 1000000 in
theorem refRead_num (s : ByteArray) (w : World) (hs : s.size = 9) (h1 : bt s 0 = 1) (n : Int) (hn : n = numS (s.extract 1 s.size) 8 - 9223372036854775808) (hq : codeS (bt s 0) n ⟨#[]⟩ = s) :
    Calls Tryd.prog 13 #[.string s] w fun e w' => e = .returned (.tuple #[.agg #[.int .i64 (bt s 0), .int .i64 n, .string ⟨#[]⟩], .bool true]) ∧ Below w.heap.size w w' := by
  have h9' : ((s.size : Int) != 9) = false := by rw [hs]; rfl
  have hb := get_bt s
  have ha : (bt s 0 == 1) = true := by rw [h1]; rfl
  have b0 := bt_nonneg s 0
  have b1 := bt_le s 0
  have hs1 : s.size ≤ 9 := by omega
  have hs2 : 9 ≤ s.size := by omega
  have n8 := numS_bd (s.extract 1 s.size) 8
  have hx := bits_xor63u (numS (s.extract 1 s.size) 8) n8.1 (by have := n8.2; simp only [Int.reducePow] at this; omega)
  have HC := Lib.hid (fun w => refCode_any (bt s 0) n ⟨#[]⟩ w (by decide) (by omega) (by have := n8.2; simp only [Int.reducePow] at this; omega) (by unfold goodB; rw [decide_eq_true_iff]; left; exact ⟨h1, rfl⟩))
  rw [hq] at HC
  have HN := Lib.hid hn
  have HX := Lib.hid hx
  have H1 := Lib.hid h1
  have HS := Lib.hid hs
  have HN8 := Lib.hid n8
  obtain ⟨W0, hW0⟩ : ∃ W0, W0 = (w.alloc (.cells #[.int .i64 0, .int .i64 0, .string ⟨#[]⟩] 23)).alloc (.cells #[.int .i64 (bt s 0), .int .i64 0, .string ⟨#[]⟩] 23) := ⟨_, rfl⟩
  have HW0 := Lib.hid hW0
  clear hs h1 hn hx hq hW0 n8
  go_enter Tryd.func13, Tryd.ntmps13
  go_wp2_with fail
  go_loop [5, 6] (fun u i => ∃ k : Nat, k ≤ 8 ∧ i = .int .i64 ((k + 1 : Nat) : Int) ∧ u = .int .u64 (numS (s.extract 1 s.size) k)) (fun _ i => 9 - (intOf i).toNat)
  case atStart => exact ⟨0, by omega, rfl, rfl⟩
  case round =>
    obtain ⟨k, hk, rfl, rfl⟩ := hrel
    by_cases hlt : k < 8
    · have nk := numS_bd (s.extract 1 s.size) k
      have hst : numS (s.extract 1 s.size) (k + 1) = numS (s.extract 1 s.size) k * 256 + bt s (k + 1) := by
        show numS (s.extract 1 s.size) k * 256 + bt (s.extract 1 s.size) k = _
        rw [bt_tail, Nat.add_comm 1 k]
      have bk0 := bt_nonneg s (k + 1)
      have bk1 := bt_le s (k + 1)
      have hp := pow_bd k (by omega)
      have HST := Lib.hid hst
      have kt : ((k : Int) + 1).toNat = k + 1 := by omega
      obtain ⟨nk0, nk1⟩ := nk
      have nk2 : numS (s.extract 1 s.size) k < 72057594037927936 := by omega
      clear hst hp nk1
      generalize numS (s.extract 1 s.size) k = N at *
      go_wp2_with fail
      go_round
      case rel => exact ⟨k + 1, by omega, by go_num, by rw [HST.out]⟩
      case measure => simp [intOf]; omega
    · obtain rfl : k = 8 := by omega
      have hx := HX.out
      have hnn : wrap64 ((numS (s.extract 1 s.size) 8 + 9223372036854775808) % 18446744073709551616) = n := by
        have a := HN8.out.1
        have b := HN8.out.2
        rw [HN.out]
        unfold wrap64
        simp only [Int.reducePow] at b
        omega
      have HNN := Lib.hid hnn
      clear hnn hlt hk
      generalize numS (s.extract 1 s.size) 8 = N at *
      go_wp2_with fail
      rw [HNN.out]
      refine (HC.out _).mono ?_
      rintro e w1 ⟨rfl, hb1⟩
      obtain ⟨hc1, hf1⟩ := bcell hb1
      have c0 : w1.cell? ⟨w.heap.size, 0, none⟩ = some (.int .i64 0) := by rw [hc1 _ _ (by simp; omega)]; go_simp
      have c1 : w1.cell? ⟨w.heap.size, 1, none⟩ = some (.int .i64 0) := by rw [hc1 _ _ (by simp; omega)]; go_simp
      have c2 : w1.cell? ⟨w.heap.size, 2, none⟩ = some (.string ⟨#[]⟩) := by rw [hc1 _ _ (by simp; omega)]; go_simp
      have f0 : ∀ o, w1.frozen? ⟨w.heap.size, o, none⟩ = false := by intro o; rw [hf1 _ _ (by simp; omega)]; go_simp
      have hz := hb1.size
      simp at hz
      have d0 : w1.cell? ⟨w.heap.size + 1, 0, none⟩ = some (.int .i64 (bt s 0)) := by rw [hc1 _ _ (by simp)]; go_simp
      have d1 : w1.cell? ⟨w.heap.size + 1, 1, none⟩ = some (.int .i64 n) := by rw [hc1 _ _ (by simp)]; go_simp
      have d2 : w1.cell? ⟨w.heap.size + 1, 2, none⟩ = some (.string ⟨#[]⟩) := by rw [hc1 _ _ (by simp)]; go_simp
      have HB1 := Lib.hid (bl (blA (blA (Below.refl w.heap.size w) _) _) hb1)
      clear hc1 hf1 hb1
      go_wp2_with fail
      refine bodyPost_ret (v := .tuple #[.agg #[.int .i64 (bt s 0), .int .i64 n, .string ⟨#[]⟩], .bool true]) (by simp [results, Tryd.results13, go_sem, c0, c1, c2]) rfl ⟨rfl, ?_⟩
      exact blC (blC (blC HB1.out (Nat.le_refl _) _) (Nat.le_refl _) _) (Nat.le_refl _) _

theorem refRead_any (s : ByteArray) (w : World) (hm : s.size ≤ maxLen) :
    Calls Tryd.prog 13 #[.string s] w fun e w' => e = .returned (match rd s with | none => zeroT (.bool false) | some (k, n, t) => .tuple #[.agg #[.int .i64 k, .int .i64 n, .string t], .bool true]) ∧ Below w.heap.size w w' := by
  by_cases h9 : s.size = 9
  · by_cases h1 : bt s 0 = 1
    · have hr : rd s = some (1, numS (s.extract 1 s.size) 8 - 9223372036854775808, ⟨#[]⟩) := by unfold rd; rw [if_pos h9, if_pos h1]
      obtain ⟨-, -, -, hc⟩ := code_rd s _ _ _ hr
      have := refRead_num s w h9 h1 _ rfl (by rw [h1]; exact hc)
      rw [h1] at this
      rw [hr]; exact this
    · by_cases h2 : bt s 0 = 2
      · by_cases h8 : bt s 8 ≤ 7
        · have ht := refRead_text s w _ rfl h9 h2 h8 _ rfl
          rw [h2] at ht
          have n8 := bt_nonneg s 8
          have hg : goodB 2 0 (s.extract 1 (1 + (bt s 8).toNat)) = true := by
            unfold goodB; rw [decide_eq_true_iff]; right; exact ⟨rfl, rfl, by simp [ByteArray.size_extract]; omega⟩
          by_cases hq : codeS 2 0 (s.extract 1 (1 + (bt s 8).toNat)) = s
          · have hr : rd s = some (2, 0, s.extract 1 (1 + (bt s 8).toNat)) := by
              have := rd_code 2 0 _ hg (by decide) (by decide)
              rwa [hq] at this
            rw [hq, if_pos (by simp)] at ht
            rw [hr]; exact ht
          · have hr : rd s = none := by
              cases hx : rd s with
              | none => rfl
              | some v =>
                exfalso
                obtain ⟨k0, n0, t0⟩ := v
                have hu : rd s = some (2, 0, s.extract 1 (1 + (bt s 8).toNat)) := by
                  unfold rd at hx ⊢
                  rw [if_pos h9, if_neg h1] at hx ⊢
                  by_cases h3 : bt s 0 = 2 ∧ bt s 8 ≤ 7 ∧ ∀ i, (bt s 8).toNat ≤ i → i < 7 → bt s (1 + i) = 0
                  · rw [if_pos h3]
                  · rw [if_neg h3] at hx; cases hx
                exact hq (code_rd s _ _ _ hu).2.2.2
            rw [if_neg (by rw [beq_iff_eq]; exact fun e => hq (toList_inj e))] at ht
            rw [hr]; exact ht
        · have hr : rd s = none := by unfold rd; rw [if_pos h9, if_neg h1, if_neg (fun h => h8 h.2.1)]
          rw [hr]; exact refRead_long s w h9 h2 (by omega)
      · have hr : rd s = none := by unfold rd; rw [if_pos h9, if_neg h1, if_neg (fun h => h2 h.1)]
        rw [hr]; exact refRead_kind s w h9 h1 h2
  · rw [rd_size h9]; exact refRead_size s w hm h9
end Go.Proofs.YtciodlegkoeipaaDoor.Sg
