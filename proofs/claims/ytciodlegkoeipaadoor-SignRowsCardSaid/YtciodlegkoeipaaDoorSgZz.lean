import Derived.Test.YtciodlegkoeipaaDoorSgZ


namespace Go.Proofs.YtciodlegkoeipaaDoor.Sg
open Go.ChangeShapes Go.WideShapes Go.ChangeAt Go.RowKit Go.PlainAid
set_option linter.unusedVariables false
set_option linter.unusedSimpArgs false

theorem VReads_own2 {w : World} {base : Nat} {v : Value} {l : List V} (h : w.ownsRow base 23 3 v l.length (cellsV l)) : ∃ A c, v = .slice A l.length c ∧ VReads w A l := by
  by_cases hv : v = .slice none 0 0
  · subst hv
    have h0 : l.length = 0 := by
      obtain ⟨-, ⟨-, e⟩ | ⟨g, cap, cur, e, -⟩⟩ := h
      · exact e
      · cases e
    have hl : l = [] := List.eq_nil_of_length_eq_zero h0
    subst hl
    exact ⟨none, 0, rfl, fun h => absurd rfl h⟩
  · by_cases hl : l = []
    · subst hl
      obtain ⟨g, c, rfl, -⟩ := own_form h hv
      exact ⟨_, c, rfl, fun h => absurd rfl h⟩
    · exact VReads_own h ⟨fun e => absurd e hv, fun e => absurd e hl⟩

set_option maxHeartbeats 400000 in
theorem refReadRow_size (s : ByteArray) (w : World) (hm : s.size ≤ maxLen) (h : ¬ (s.size % 9 = 0 ∧ s.size ≤ 36)) :
    Calls Tryd.prog 19 #[.string s] w fun e w' => e = .returned (.tuple #[.slice none 0 0, .bool false]) ∧ w = w' := by
  unfold maxLen at hm
  by_cases h1 : s.size % 9 = 0
  · have h2 : 36 < s.size := by omega
    have e1 : ((s.size : Int) % 9 != 0) = false := by rw [bne_eq_false_iff_eq]; omega
    have HH := Lib.hid h1
    clear h1 h
    go_enter Tryd.func19, Tryd.ntmps19
    go_wp2
    go_returns
    exact ⟨rfl, rfl⟩
  · have e1 : ((s.size : Int) % 9 != 0) = true := by rw [bne_iff_ne]; omega
    have HH := Lib.hid h1
    clear h1 h
    go_enter Tryd.func19, Tryd.ntmps19
    go_wp2
    go_returns
    exact ⟨rfl, rfl⟩

/-- What ReadRow answers: the values' list, in memory of its own. -/
def refRowPost (w : World) (r : Option (List V)) (e : Ending) (w' : World) : Prop :=
  Below w.heap.size w w' ∧ match r with
    | none => e = .returned (.tuple #[.slice none 0 0, .bool false])
    | some l => ∃ v, e = .returned (.tuple #[v, .bool true]) ∧ w'.ownsRow w.heap.size 23 3 v l.length (cellsV l)

set_option maxHeartbeats 1000000 in
theorem refReadRow_ok (s : ByteArray) (n : Nat) (w : World) (hs : s.size = 9 * n) (hn : n ≤ 4) :
    Calls Tryd.prog 19 #[.string s] w (refRowPost w (rdK s n)) := by
  obtain ⟨i0, hi0, hz0, hz1, hz2⟩ := info_parts info_V
  have HI0 := Lib.hid hi0
  have HZ0 := Lib.hid hz0
  have HZ1 := Lib.hid hz1
  have HZ2 := Lib.hid hz2
  have e1 : ((s.size : Int) % 9 != 0) = false := by rw [bne_eq_false_iff_eq]; omega
  have HS := Lib.hid hs
  have hs1 : s.size ≤ 9 * n := by omega
  have hs2 : 9 * n ≤ s.size := by omega
  clear hi0 hz0 hz1 hz2 hs
  go_enter Tryd.func19, Tryd.ntmps19
  go_wp2_with fail
  go_loopw [4, 5] (fun r i wr => ∃ (k q : Nat) (l : List V), k ≤ n ∧ q ≤ 9 * k ∧ 9 * k ≤ q ∧ i = .int .i64 (q : Int) ∧ Hid (rdK s k = some l) ∧ Hid (wr.ownsRow w.heap.size 23 3 r k (cellsV l)) ∧ Hid (Below w.heap.size w wr)) (fun _ i _ => 9 * n - (intOf i).toNat)
  case atStart => exact ⟨0, 0, [], by omega, by omega, by omega, rfl, rfl, ⟨rfl, Or.inr ⟨w.heap.size, 0, #[], rfl, Nat.le_refl _, heap_alloc_new w _, Nat.le_refl _, by decide, rfl, rfl⟩⟩, blA (Below.refl _ _) _⟩
  case round =>
    obtain ⟨k, q, l, hk, hq1, hq2, rfl, hR, hO, hB⟩ := hrel
    have hqe : 9 * k = q := by omega
    have hqi : (q : Int).toNat = q := by simp
    by_cases hlt : k < n
    · have hR9 : ∀ v, rd (s.extract q (q + 9)) = some v → rdK s (k + 1) = some (l ++ [v]) := fun v hv => rdK_step hR.out (by rw [hqe]; exact hv)
      have hB9 : rd (s.extract q (q + 9)) = none → rdK s n = none := fun hv => rdK_bad (by rw [hqe]; exact hv) n hlt
      clear hqe
      have hsl := slice9 s q (by omega)
      cases hv : rd (s.extract q (q + 9)) with
      | none =>
        have C := fun w => refRead_any (s.extract q (q + 9)) w (by simp [ByteArray.size_extract, maxLen]; omega)
        rw [hv] at C
        unfold zeroT at C
        have HC := Lib.hid C
        have hbad := hB9 hv
        have HBAD := Lib.hid hbad
        clear C hv hbad hR9 hB9
        go_wp2_with fail
        refine (HC.out _).mono ?_
        rintro e w2 ⟨rfl, hb2⟩
        have HB2 := Lib.hid (bl hB.out hb2)
        clear hb2
        go_wp2_with fail
        go_returns
        refine ⟨blA HB2.out _, ?_⟩
        rw [HBAD.out]; rfl
      | some v =>
        obtain ⟨k0, n0, s0⟩ := v
        have C := fun w => refRead_any (s.extract q (q + 9)) w (by simp [ByteArray.size_extract, maxLen]; omega)
        rw [hv] at C
        have HC := Lib.hid C
        have hst := hR9 _ hv
        have HST := Lib.hid hst
        clear C hv hst hR9 hB9
        go_wp2_with fail
        refine (HC.out _).mono ?_
        rintro e w2 ⟨rfl, hb2⟩
        have HB2 := Lib.hid (bl hB.out hb2)
        have HO2 := Lib.hid (ownB hO.out hb2)
        clear hb2
        go_wp2_with (with_reducible refine wpList_append_own _ rfl (.tmp 35) (.tmp 37) 36 rfl w.heap.size 23 i0 (.agg #[.int .i64 0, .int .i64 0, .string ⟨#[]⟩]) 3 32 Tryd.underlying36 HI0.out HZ0.out HZ1.out HZ2.out rfl (by decide) _ _ _ rfl ((HO2.out.alloc _).alloc _) ⟨w2.heap.size + 1, 0, none⟩ 1 1 [.int .i64 k0, .int .i64 n0, .string s0] rfl rfl ?c1 ?c2 ?c3 ?c4 ?c5 ?_)
        case c1 =>
          intro j u hu
          rw [addr_zero]
          match j, hu with
          | 0, hu | 1, hu | 2, hu => go_simp; exact Option.some.inj hu
          | j + 3, hu => cases hu
        case c2 =>
          intro u hu
          simp only [List.mem_cons, List.not_mem_nil, or_false] at hu
          rcases hu with rfl | rfl | rfl <;> rfl
        case c3 => unfold maxLen; omega
        case c4 => omega
        case c5 => have := HB2.out.size; simp; omega
        intro v' w3 hown3 hgrow3 hne
        have hb3 : Below w.heap.size w w3 := by
          refine (blA (blA HB2.out _) _).grown hgrow3 (blA (blA HB2.out _) _).size ?_
          intro k' hk'
          exact (HO2.out.lt k' hk').1
        have hO3 : w3.ownsRow w.heap.size 23 3 v' (k + 1) (cellsV (l ++ [(k0, n0, s0)])) := by rw [cellsV_snoc]; exact hown3
        have HO3 := Lib.hid hO3
        have HB3 := Lib.hid hb3
        clear hown3 hgrow3 hne hb3 hO3
        go_wp2_with fail
        go_roundw
        case rel => exact ⟨k + 1, q + 9, l ++ [(k0, n0, s0)], by omega, by omega, by omega, by go_num, HST, HO3, HB3⟩
        case measure => simp [intOf]; omega
    · obtain rfl : k = n := by omega
      clear hqe
      go_wp2_with fail
      go_returns
      refine ⟨hB.out, ?_⟩
      rw [hR.out]
      have hl := rdK_length hR.out
      exact ⟨_, rfl, by rw [hl]; exact hO.out⟩

theorem refReadRow_any (s : ByteArray) (w : World) (hm : s.size ≤ maxLen) : Calls Tryd.prog 19 #[.string s] w (refRowPost w (rdRow s)) := by
  unfold rdRow
  by_cases hc : s.size % 9 = 0 ∧ s.size ≤ 36
  · rw [if_pos hc]; exact refReadRow_ok s (s.size / 9) w (by omega) (by omega)
  · rw [if_neg hc]
    refine (refReadRow_size s w hm hc).mono ?_
    rintro e w' ⟨rfl, rfl⟩
    exact ⟨Below.refl _ _, rfl⟩
end Go.Proofs.YtciodlegkoeipaaDoor.Sg
