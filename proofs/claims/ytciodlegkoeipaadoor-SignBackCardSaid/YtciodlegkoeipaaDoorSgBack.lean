import Derived.Test.YtciodlegkoeipaaDoorSgU
namespace Go.Proofs.YtciodlegkoeipaaDoor.Sg
open Go.ChangeShapes Go.WideShapes Go.ChangeAt Go.RowKit Go.PlainAid
set_option linter.unusedVariables false

theorem VReads.base {W W' : World} {A : Option Addr} {l : List V} (h : VReads W A l) (hb : Below W.heap.size W W') : VReads W' A l := h.keep hb

set_option maxHeartbeats 400000 in
theorem back_long (A : Option Addr) (ca : Nat) (l : List V) (s : ByteArray) (w : World) (hl : l.length ≤ maxLen) (hs : s.size ≤ maxLen) (h : 4 < l.length ∨ 36 < s.size) :
    Calls Tryd.prog 6 #[.slice A l.length ca, .string s] w fun e w' => e = .returned (.bool true) ∧ Below w.heap.size w w' := by
  unfold maxLen at hl hs
  generalize l.length = n at *
  by_cases h1 : 4 < n
  · clear h
    go_enter Tryd.func6, Tryd.ntmps6
    go_wp2_with fail
    refine (awake_any _).mono ?_
    rintro e w1 ⟨rfl, hb1⟩
    go_wp2_with fail
    go_returns
    exact ⟨rfl, hb1⟩
  · have h2 : 36 < s.size := by omega
    clear h
    go_enter Tryd.func6, Tryd.ntmps6
    go_wp2_with fail
    refine (awake_any _).mono ?_
    rintro e w1 ⟨rfl, hb1⟩
    go_wp2_with fail
    go_returns
    exact ⟨rfl, hb1⟩

set_option maxHeartbeats 2000000 in
theorem back_short (A : Option Addr) (ca : Nat) (l : List V) (s : ByteArray) (w : World) (hl : l.length ≤ 4) (hs : s.size ≤ 36) (hi : ∀ v ∈ l, inV v) (hr : VReads w A l) :
    Calls Tryd.prog 6 #[.slice A l.length ca, .string s] w fun e w' => e = .returned (.bool true) ∧ Below w.heap.size w w' := by
  have HR := Lib.hid hr
  have HI := Lib.hid hi
  have HRO := Lib.hid (fun w hg hr => Row_good A ca l w hl hg hi hr)
  have HRR := Lib.hid (fun w => ReadRow_any s w (by unfold maxLen; omega))
  have HRB := Lib.hid (fun m (h : rdRow s = some m) => rdRow_back s m h)
  generalize hn : l.length = n at *
  have HN := Lib.hid hn
  clear hr hi hn
  go_enter Tryd.func6, Tryd.ntmps6
  go_wp2_with fail
  refine (awake_any _).mono ?_
  rintro e w1 ⟨rfl, hb1⟩
  have HB1 := Lib.hid hb1
  clear hb1
  go_wp2_with fail
  go_loopw [5] (fun i wr => ∃ (k : Nat), k ≤ n ∧ i = .int .i64 k ∧ Hid (∀ v ∈ l.take k, goodV v = true) ∧ Hid (Below w.heap.size w wr)) (fun i _ => n - (intOf i).toNat)
  case atStart => exact ⟨0, by omega, rfl, by intro v hv; simp at hv, HB1.out⟩
  case round =>
    obtain ⟨k, hk, rfl, hG, hB⟩ := hrel
    by_cases hlt : k < n
    · have hv : l[k]? = some (l[k]'(by have := HN.out; omega)) := List.getElem?_eq_getElem _
      generalize l[k]'(by have := HN.out; omega) = v at *
      have hmem : v ∈ l := List.mem_of_getElem? hv
      have hin := HI.out v hmem
      have hne : l ≠ [] := by intro e; rw [e] at hv; cases hv
      have hrd := HR.out.keep hB.out
      obtain ⟨b, off, rfl, hlt', hcells⟩ := hrd hne
      obtain ⟨x0, x1, x2⟩ := hcells k v hv
      obtain ⟨k0, n0, s0⟩ := v
      have HV := Lib.hid hv
      have kk : (0 : Int) ≤ (k : Int) := by omega
      have kt : (k : Int).toNat = k := by simp
      have G := fun w => Good_any k0 n0 s0 w hin.2.2
      clear hcells hv hmem hne hrd
      cases hg : goodB k0 n0 s0 with
      | false =>
        rw [hg] at G
        have HGG := Lib.hid G
        clear G hg
        go_wp2_with fail
        refine (HGG.out _).mono ?_
        rintro e w2 ⟨rfl, hb2⟩
        go_wp2_with fail
        go_returns
        exact ⟨rfl, bl hB.out hb2⟩
      | true =>
        rw [hg] at G
        have HGG := Lib.hid G
        have HC := Lib.hid (fun w => Code_yes k0 n0 s0 w hin.2.2 hin.1 hin.2.1 hg)
        have HD := Lib.hid (fun w => Read_some (codeS k0 n0 s0) w k0 n0 s0 (rd_code k0 n0 s0 hg hin.1 hin.2.1))
        have hg' : ∀ v ∈ l.take (k + 1), goodV v = true := by
          intro v hv
          rw [List.take_add_one, HV.out] at hv
          rcases List.mem_append.1 hv with hv | hv
          · exact hG.out v hv
          · simp only [Option.toList, List.mem_singleton] at hv; rw [hv]; exact hg
        have HG' := Lib.hid hg'
        clear G hg hg'
        generalize codeS k0 n0 s0 = cs at *
        go_wp2_with fail
        refine (HGG.out _).mono ?_
        rintro e w2 ⟨rfl, hb2⟩
        have y0 : w2.cell? ⟨b, off + k * 3, none⟩ = some (.int .i64 k0) := by rw [(bcell hb2).1 _ _ hlt']; exact x0
        have y1 : w2.cell? ⟨b, off + k * 3 + 1, none⟩ = some (.int .i64 n0) := by rw [(bcell hb2).1 _ _ hlt']; exact x1
        have y2 : w2.cell? ⟨b, off + k * 3 + 2, none⟩ = some (.string s0) := by rw [(bcell hb2).1 _ _ hlt']; exact x2
        have lt2 : b < w2.heap.size := by have := hb2.size; omega
        have HB2 := Lib.hid (bl hB.out hb2)
        clear x0 x1 x2 hb2 hlt'
        go_wp2_with fail
        refine (HC.out _).mono ?_
        rintro e w3 ⟨rfl, hb3⟩
        have x0 : w3.cell? ⟨b, off + k * 3, none⟩ = some (.int .i64 k0) := by rw [(bcell hb3).1 _ _ lt2]; exact y0
        have x1 : w3.cell? ⟨b, off + k * 3 + 1, none⟩ = some (.int .i64 n0) := by rw [(bcell hb3).1 _ _ lt2]; exact y1
        have x2 : w3.cell? ⟨b, off + k * 3 + 2, none⟩ = some (.string s0) := by rw [(bcell hb3).1 _ _ lt2]; exact y2
        have lt3 : b < w3.heap.size := by have := hb3.size; omega
        have HB3 := Lib.hid (bl HB2.out hb3)
        clear y0 y1 y2 hb3 lt2
        go_wp2_with fail
        refine (HD.out _).mono ?_
        rintro e w4 ⟨rfl, hb4⟩
        have y0 : w4.cell? ⟨b, off + k * 3, none⟩ = some (.int .i64 k0) := by rw [(bcell hb4).1 _ _ lt3]; exact x0
        have y1 : w4.cell? ⟨b, off + k * 3 + 1, none⟩ = some (.int .i64 n0) := by rw [(bcell hb4).1 _ _ lt3]; exact x1
        have y2 : w4.cell? ⟨b, off + k * 3 + 2, none⟩ = some (.string s0) := by rw [(bcell hb4).1 _ _ lt3]; exact x2
        have lt4 : b < w4.heap.size := by have := hb4.size; omega
        have HB4 := Lib.hid (bl HB3.out hb4)
        clear x0 x1 x2 hb4 lt3
        go_wp2_with fail
        go_quiet (fail)
        go_wp2_with fail
        go_roundw
        case rel => exact ⟨k + 1, by omega, by go_num, HG', blN (blA HB4.out _) _⟩
        case measure => simp [intOf]; omega
    · obtain rfl : k = n := by omega
      have hga : ∀ v ∈ l, goodV v = true := by
        intro v hv
        have := hG.out v
        rw [List.take_of_length_le (by rw [HN.out]; exact Nat.le_refl _)] at this
        exact this hv
      have HGA := Lib.hid hga
      have hrr := fun w => ReadRow_any ⟨(rowB l).toArray⟩ w (by rw [Lib.size_eq]; show (rowB l).length ≤ maxLen; rw [rowB_length, HN.out]; unfold maxLen; omega)
      rw [rdRow_row l hga HI.out (by rw [HN.out]; exact hl)] at hrr
      have HRR1 := Lib.hid hrr
      have hsz : ((⟨(rowB l).toArray⟩ : ByteArray).size : Int) = 9 * (k : Int) := by rw [Lib.size_eq]; show ((rowB l).length : Int) = _; rw [rowB_length, HN.out]; omega
      have hsz2 : (((⟨(rowB l).toArray⟩ : ByteArray).size : Int) != 9 * (k : Int)) = false := by rw [hsz]; simp
      have HRO1 := Lib.hid (HRO.out wr hga (HR.out.keep hB.out))
      have HSM := Lib.hid (fun B cb w ha hb => Same_eq A B ca cb l w (by rw [HN.out]; unfold maxLen; omega) ha hb)
      clear hrr hga hsz
      generalize (⟨(rowB l).toArray⟩ : ByteArray) = r at *
      rw [HN.out] at HSM
      go_wp2_with fail
      refine HRO1.out.mono ?_
      rintro e w2 ⟨rfl, hb2⟩
      have HB2 := Lib.hid (bl hB.out hb2)
      clear hb2
      go_wp2_with fail
      refine (HRR1.out _).mono ?_
      rintro e w3 ⟨hb3, v, rfl, hown, hnil⟩
      obtain ⟨A2, c2, rfl, hvr⟩ := VReads_own hown hnil
      have HB3 := Lib.hid (bl HB2.out hb3)
      have HV3 := Lib.hid hvr
      clear hb3 hown hnil hvr
      rw [HN.out]
      go_wp2_with fail
      refine (HSM.out _ _ _ (HR.out.keep HB3.out) HV3.out).mono ?_
      rintro e w4 ⟨rfl, hb4⟩
      have HB4 := Lib.hid (bl HB3.out hb4)
      clear hb4
      go_wp2_with fail
      refine (HRR.out _).mono ?_
      rintro e w5 ⟨hb5, hpost⟩
      have HB5 := Lib.hid (bl HB4.out hb5)
      clear hb5
      cases hrd : rdRow s with
      | none =>
        rw [hrd] at hpost
        obtain rfl := hpost
        clear hrd
        go_wp2_with fail
        go_returns
        exact ⟨rfl, HB5.out⟩
      | some m =>
        rw [hrd] at hpost
        obtain ⟨v, rfl, hown, hnil⟩ := hpost
        obtain ⟨A3, c3, rfl, hvr⟩ := VReads_own hown hnil
        obtain ⟨hm1, hm2, hm3, hm4⟩ := HRB.out m hrd
        have HF := Lib.hid (Row_good A3 c3 m w5 hm3 hm1 hm2 hvr)
        rw [hm4] at HF
        clear hrd hown hnil hvr hm1 hm2 hm4
        generalize m.length = mm at *
        go_wp2_with fail
        refine HF.out.mono ?_
        rintro e w6 ⟨rfl, hb6⟩
        have HB6 := Lib.hid (bl HB5.out hb6)
        clear hb6
        go_wp2_with fail
        go_returns
        exact ⟨rfl, HB6.out⟩
end Go.Proofs.YtciodlegkoeipaaDoor.Sg
