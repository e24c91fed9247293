import Derived.Test.YtciodlegkoeipaaDoorSgV


namespace Go.Proofs.YtciodlegkoeipaaDoor.Sg
open Go.ChangeShapes Go.WideShapes Go.ChangeAt Go.RowKit Go.PlainAid
set_option linter.unusedVariables false
set_option linter.unusedSimpArgs false

theorem cdv_txt (n : Int) (s : ByteArray) (k : Nat) (h : k < 7) : cdv 2 n s (k + 1) = bt s k := by
  unfold cdv; rw [if_neg (by omega), if_neg (by decide), if_neg (by omega)]; rfl
theorem cdv_len (n : Int) (s : ByteArray) : cdv 2 n s 8 = s.size := rfl

set_option maxHeartbeats 2000000 in
theorem refCode_text (n : Int) (s : ByteArray) (w : World) (hs : s.size ≤ 7) :
    Calls Tryd.prog 11 #[.agg #[.int .i64 2, .int .i64 n, .string s]] w fun e w' => e = .returned (.string (codeS 2 n s)) ∧ Below w.heap.size w w' := by
  obtain ⟨i0, hi0, hz0, hz1, hz2⟩ := info_parts info_u8
  have HI0 := Lib.hid hi0
  have HZ0 := Lib.hid hz0
  have HZ1 := Lib.hid hz1
  have HZ2 := Lib.hid hz2
  clear hi0 hz0 hz1 hz2
  have hgb := get_bt s
  obtain ⟨W0, hW0⟩ : ∃ W0, W0 = w.alloc (.cells #[.int .i64 2, .int .i64 n, .string s] 23) := ⟨_, rfl⟩
  have z0 : W0.heap.size = w.heap.size + 1 := by rw [hW0]; simp
  have q2 : W0.cell? ⟨w.heap.size, 2, none⟩ = some (.string s) := by rw [hW0]; go_simp
  have HBL := Lib.hid (show Below w.heap.size w W0 by rw [hW0]; exact blA (Below.refl _ _) _)
  have hO0 : (W0.alloc (.cells #[.int .u8 2] 5)).ownsRow W0.heap.size 5 1 (.slice (some ⟨W0.heap.size, 0, none⟩) 1 1) 1 (codeC 2 n s 1) :=
    ⟨rfl, Or.inr ⟨W0.heap.size, 1, #[.int .u8 2], rfl, Nat.le_refl _, heap_alloc_new W0 _, Nat.le_refl _, by decide, rfl, rfl⟩⟩
  have HO0 := Lib.hid hO0
  rw [z0] at HO0
  have HW0 := Lib.hid hW0
  have HQ2 := Lib.hid q2
  have HZ := Lib.hid z0
  clear hO0 hW0 q2 z0
  go_enter Tryd.func11, Tryd.ntmps11
  go_wp2_with fail
  rw [← HW0.out]
  go_loopw [3, 7] (fun r i wr => ∃ (k g c : Nat), k ≤ 7 ∧ i = .int .i64 k ∧ r = .slice (some ⟨g, 0, none⟩) (k + 1) c ∧ Hid (wr.ownsRow (w.heap.size + 1) 5 1 (.slice (some ⟨g, 0, none⟩) (k + 1) c) (k + 1) (codeC 2 n s (k + 1))) ∧ Hid (Below W0.heap.size W0 wr)) (fun _ i _ => 7 - (intOf i).toNat)
  case atStart => exact ⟨0, w.heap.size + 1, 1, by omega, rfl, rfl, HO0.out, blA (Below.refl _ _) _⟩
  case round =>
    obtain ⟨k, g, c, hk, rfl, rfl, hO, hB⟩ := hrel
    have c2 : wr.cell? ⟨w.heap.size, 2, none⟩ = some (.string s) := by rw [(bcell hB.out).1 _ _ (by rw [HZ.out]; omega)]; exact HQ2.out
    have hzr := hB.out.size
    rw [HZ.out] at hzr
    have kk : (0 : Int) ≤ (k : Int) := by omega
    have kt : (k : Int).toNat = k := by simp
    by_cases hlt : k < 7
    · by_cases hks : k < s.size
      · go_wp2_with (with_reducible refine wpList_append_own _ rfl (.tmp 47) (.tmp 52) 50 rfl (w.heap.size + 1) 5 i0 (.int .u8 0) 1 1 Tryd.underlying50 HI0.out HZ0.out HZ1.out HZ2.out rfl (by decide) _ _ _ rfl (hO.out.alloc _) ⟨wr.heap.size, 0, none⟩ 1 1 [.int .u8 (bt s k)] rfl rfl ?c1 ?c2 ?c3 ?c4 ?c5 ?_)
        case c1 => exact append1 (by go_simp)
        case c2 => intro u hu; rw [List.mem_singleton.1 hu]; rfl
        case c3 => unfold maxLen; omega
        case c4 => omega
        case c5 => simp; omega
        intro v' w4 hown4 hgrow4 hne
        have hb4 : Below W0.heap.size W0 w4 := (blA hB.out _).grown hgrow4 (blA hB.out _).size (fun k' hk' => by rw [HZ.out]; exact (hO.out.lt k' hk').1)
        have ex : bt s k = cdv 2 n s (k + 1) := (cdv_txt n s k hlt).symm
        rw [ex, ← codeC_snoc] at hown4
        obtain ⟨g', c', rfl, hg1, hg2, hg3, hg4⟩ := own_form hown4 hne
        have HO4 := Lib.hid hown4
        have HB4 := Lib.hid hb4
        clear hown4 hgrow4 hne hb4 ex
        go_wp2_with fail
        go_roundw
        case rel => exact ⟨k + 1, g', c', by omega, by go_num, rfl, HO4, HB4⟩
        case measure => simp [intOf]; omega
      · go_wp2_with (with_reducible refine wpList_append_own _ rfl (.tmp 54) (.tmp 55) 50 rfl (w.heap.size + 1) 5 i0 (.int .u8 0) 1 1 Tryd.underlying50 HI0.out HZ0.out HZ1.out HZ2.out rfl (by decide) _ _ _ rfl (hO.out.alloc _) ⟨wr.heap.size, 0, none⟩ 1 1 [.int .u8 0] rfl rfl ?c1 ?c2 ?c3 ?c4 ?c5 ?_)
        case c1 => exact append1 (by go_simp)
        case c2 => intro u hu; rw [List.mem_singleton.1 hu]; rfl
        case c3 => unfold maxLen; omega
        case c4 => omega
        case c5 => simp; omega
        intro v' w4 hown4 hgrow4 hne
        have hb4 : Below W0.heap.size W0 w4 := (blA hB.out _).grown hgrow4 (blA hB.out _).size (fun k' hk' => by rw [HZ.out]; exact (hO.out.lt k' hk').1)
        have ex : (0 : Int) = cdv 2 n s (k + 1) := by rw [cdv_txt n s k hlt, bt_end s (by omega)]
        rw [ex, ← codeC_snoc] at hown4
        obtain ⟨g', c', rfl, hg1, hg2, hg3, hg4⟩ := own_form hown4 hne
        have HO4 := Lib.hid hown4
        have HB4 := Lib.hid hb4
        clear hown4 hgrow4 hne hb4 ex
        go_wp2_with fail
        go_roundw
        case rel => exact ⟨k + 1, g', c', by omega, by go_num, rfl, HO4, HB4⟩
        case measure => simp [intOf]; omega
    · obtain rfl : k = 7 := by omega
      simp only [Nat.reduceAdd] at hO
      go_wp2_with (with_reducible refine wpList_append_own _ rfl (.tmp 57) (.tmp 62) 50 rfl (w.heap.size + 1) 5 i0 (.int .u8 0) 1 1 Tryd.underlying50 HI0.out HZ0.out HZ1.out HZ2.out rfl (by decide) _ _ _ rfl (hO.out.alloc _) ⟨wr.heap.size, 0, none⟩ 1 1 [.int .u8 (s.size : Int)] rfl rfl ?c1 ?c2 ?c3 ?c4 ?c5 ?_)
      case c1 => exact append1 (by go_simp)
      case c2 => intro u hu; rw [List.mem_singleton.1 hu]; rfl
      case c3 => unfold maxLen; omega
      case c4 => omega
      case c5 => simp; omega
      intro v' w4 hown4 hgrow4 hne
      have hb4 : Below W0.heap.size W0 w4 := (blA hB.out _).grown hgrow4 (blA hB.out _).size (fun k' hk' => by rw [HZ.out]; exact (hO.out.lt k' hk').1)
      rw [← cdv_len n s, ← codeC_snoc] at hown4
      obtain ⟨g', c', rfl, hg1, hg2, hg3, hg4⟩ := own_form hown4 hne
      have hcv := run_convert_bytes_arg (P := Tryd.prog) w4 50 5 Tryd.underlying50 Tryd.underlying5 g' 0 9 c' [cdv 2 n s 0, cdv 2 n s 1, cdv 2 n s 2, cdv 2 n s 3, cdv 2 n s 4, cdv 2 n s 5, cdv 2 n s 6, cdv 2 n s 7, cdv 2 n s 8]
        rfl (fun i hi => by
          rw [Nat.zero_add, hown4.cellAt i (by omega)]
          match i, hi with
          | 0, _ | 1, _ | 2, _ | 3, _ | 4, _ | 5, _ | 6, _ | 7, _ | 8, _ => rfl
          | i + 9, h => omega) 9 Tryd.underlying9
      change _ = Result.ok (Value.string (codeS 2 n s)) w4 at hcv
      have HB4 := Lib.hid hb4
      clear hown4 hgrow4 hne hb4
      go_wp2_with fail
      go_returns
      exact ⟨rfl, HBL.out.trans (HB4.out.mono (by rw [HZ.out]; omega))⟩

theorem refCode_any (k n : Int) (s : ByteArray) (w : World) (hs : s.size ≤ maxLen) (hn : -9223372036854775808 ≤ n) (hn2 : n ≤ 9223372036854775807) (hg : goodB k n s = true) :
    Calls Tryd.prog 11 #[.agg #[.int .i64 k, .int .i64 n, .string s]] w fun e w' => e = .returned (.string (codeS k n s)) ∧ Below w.heap.size w w' := by
  unfold goodB at hg
  rcases of_decide_eq_true hg with ⟨rfl, h2⟩ | ⟨rfl, h2, h3⟩
  · exact refCode_num n s w hs hn hn2
  · exact refCode_text n s w h3
end Go.Proofs.YtciodlegkoeipaaDoor.Sg
