import Derived.Test.YtciodlegkoeipaaDoorSgR


namespace Go.Proofs.YtciodlegkoeipaaDoor.Sg
open Go.ChangeShapes Go.WideShapes Go.ChangeAt Go.RowKit Go.PlainAid
set_option linter.unusedVariables false

def cellsV (l : List V) : List Value := l.flatMap fun v => [Value.int .i64 v.1, .int .i64 v.2.1, .string v.2.2]
theorem cellsV_snoc (l : List V) (v : V) : cellsV (l ++ [v]) = cellsV l ++ [Value.int .i64 v.1, .int .i64 v.2.1, .string v.2.2] := by unfold cellsV; rw [List.flatMap_append]; simp
/-- The values of the first k codes. -/
noncomputable def rdK (s : ByteArray) : Nat → Option (List V)
  | 0 => some []
  | k + 1 => match rdK s k, rd (s.extract (9 * k) (9 * k + 9)) with
    | some l, some v => some (l ++ [v])
    | _, _ => none
noncomputable def rdRow (s : ByteArray) : Option (List V) := if s.size % 9 = 0 ∧ s.size ≤ 36 then rdK s (s.size / 9) else none
theorem rdK_none {s : ByteArray} {k : Nat} (h : rdK s k = none) (m : Nat) : rdK s (k + m) = none := by
  induction m with
  | zero => exact h
  | succ m ih =>
    show (match rdK s (k + m), _ with | some l, some v => some (l ++ [v]) | _, _ => none) = none
    rw [ih]
theorem rdK_bad {s : ByteArray} {k : Nat} (h : rd (s.extract (9 * k) (9 * k + 9)) = none) (n : Nat) (hn : k < n) : rdK s n = none := by
  have h1 : rdK s (k + 1) = none := by
    show (match rdK s k, rd (s.extract (9 * k) (9 * k + 9)) with | some l, some v => some (l ++ [v]) | _, _ => none) = none
    rw [h]; cases rdK s k <;> rfl
  have := rdK_none h1 (n - (k + 1))
  rwa [show k + 1 + (n - (k + 1)) = n from by omega] at this
theorem rdK_step {s : ByteArray} {k : Nat} {l : List V} {v : V} (h1 : rdK s k = some l) (h2 : rd (s.extract (9 * k) (9 * k + 9)) = some v) : rdK s (k + 1) = some (l ++ [v]) := by
  show (match rdK s k, rd (s.extract (9 * k) (9 * k + 9)) with | some l, some v => some (l ++ [v]) | _, _ => none) = _
  rw [h1, h2]
theorem rdK_length {s : ByteArray} {k : Nat} {l : List V} (h : rdK s k = some l) : l.length = k := by
  induction k generalizing l with
  | zero => cases h; rfl
  | succ k ih =>
    have h' : (match rdK s k, rd (s.extract (9 * k) (9 * k + 9)) with | some l, some v => some (l ++ [v]) | _, _ => none) = some l := h
    cases h1 : rdK s k with
    | none => rw [h1] at h'; cases h'
    | some l' =>
      cases h2 : rd (s.extract (9 * k) (9 * k + 9)) with
      | none => rw [h1, h2] at h'; cases h'
      | some v => rw [h1, h2] at h'; cases h'; simp [ih h1]
theorem slice9 (s : ByteArray) (q : Nat) (h : q + 9 ≤ s.size) (w : World) : (Instr.slice 9 (.string s) (some (.int .i64 (q : Int))) (some (.int .i64 ((q : Int) + 9))) none).run Tryd.prog w = .ok (.string (s.extract q (q + 9))) w := by
  have := run_slice_string (P := Tryd.prog) w 9 s .i64 .i64 (q : Int) ((q : Int) + 9) Tryd.underlying9 (by omega) (by omega) (by omega)
  rw [this, show ((q : Int) + 9).toNat = q + 9 from by omega, show (q : Int).toNat = q from by omega]
theorem info_V : (Tryd.prog.info? 23).map (fun i => (i.zero, i.size, i.bytes)) = some (some (.agg #[.int .i64 0, .int .i64 0, .string ⟨#[]⟩]), 3, 32) := by kernel_rfl

set_option maxHeartbeats 400000 in
theorem ReadRow_size (s : ByteArray) (w : World) (hm : s.size ≤ maxLen) (h : ¬ (s.size % 9 = 0 ∧ s.size ≤ 36)) :
    Calls Tryd.prog 18 #[.string s] w fun e w' => e = .returned (.tuple #[.slice none 0 0, .int .i64 3]) ∧ w = w' := by
  unfold maxLen at hm
  by_cases h1 : s.size % 9 = 0
  · have h2 : 36 < s.size := by omega
    have e1 : ((s.size : Int) % 9 != 0) = false := by rw [bne_eq_false_iff_eq]; omega
    have HH := Lib.hid h1
    clear h1 h
    go_enter Tryd.func18, Tryd.ntmps18
    go_wp2
    go_returns
    exact ⟨rfl, rfl⟩
  · have e1 : ((s.size : Int) % 9 != 0) = true := by rw [bne_iff_ne]; omega
    have HH := Lib.hid h1
    clear h1 h
    go_enter Tryd.func18, Tryd.ntmps18
    go_wp2
    go_returns
    exact ⟨rfl, rfl⟩

/-- What ReadRow answers: the values' list, in memory of its own. -/
def RowPost (w : World) (r : Option (List V)) (e : Ending) (w' : World) : Prop :=
  Below w.heap.size w w' ∧ match r with
    | none => e = .returned (.tuple #[.slice none 0 0, .int .i64 3])
    | some l => ∃ v, e = .returned (.tuple #[v, .int .i64 0]) ∧ w'.ownsRow w.heap.size 23 3 v l.length (cellsV l) ∧ (v = .slice none 0 0 ↔ l = [])

set_option maxHeartbeats 1000000 in
theorem ReadRow_ok (s : ByteArray) (n : Nat) (w : World) (hs : s.size = 9 * n) (hn : n ≤ 4) :
    Calls Tryd.prog 18 #[.string s] w (RowPost w (rdK s n)) := by
  obtain ⟨i0, hi0, hz0, hz1, hz2⟩ := info_parts info_V
  have HI0 := Lib.hid hi0
  have HZ0 := Lib.hid hz0
  have HZ1 := Lib.hid hz1
  have HZ2 := Lib.hid hz2
  have e1 : ((s.size : Int) % 9 != 0) = false := by rw [bne_eq_false_iff_eq]; omega
  have HS := Lib.hid hs
  have hs1 : s.size ≤ 9 * n := by omega
  have hs2 : 9 * n ≤ s.size := by omega
  clear hi0 hz0 hz1 hz2 hs
  go_enter Tryd.func18, Tryd.ntmps18
  go_wp2_with fail
  go_loopw [4, 5] (fun r i wr => ∃ (k q : Nat) (l : List V), k ≤ n ∧ q ≤ 9 * k ∧ 9 * k ≤ q ∧ i = .int .i64 (q : Int) ∧ Hid (rdK s k = some l) ∧ Hid (wr.ownsRow w.heap.size 23 3 r k (cellsV l)) ∧ Hid (r = .slice none 0 0 ↔ l = []) ∧ Hid (Below w.heap.size w wr)) (fun _ i _ => 9 * n - (intOf i).toNat)
  case atStart => exact ⟨0, 0, [], by omega, by omega, by omega, rfl, rfl, ⟨rfl, Or.inl ⟨rfl, rfl⟩⟩, by simp [Hid], Below.refl _ _⟩
  case round =>
    obtain ⟨k, q, l, hk, hq1, hq2, rfl, hR, hO, hN, hB⟩ := hrel
    have hqe : 9 * k = q := by omega
    have hqi : (q : Int).toNat = q := by simp
    by_cases hlt : k < n
    · have hR9 : ∀ v, rd (s.extract q (q + 9)) = some v → rdK s (k + 1) = some (l ++ [v]) := fun v hv => rdK_step hR.out (by rw [hqe]; exact hv)
      have hB9 : rd (s.extract q (q + 9)) = none → rdK s n = none := fun hv => rdK_bad (by rw [hqe]; exact hv) n hlt
      clear hqe
      have hsl := slice9 s q (by omega)
      cases hv : rd (s.extract q (q + 9)) with
      | none =>
        have C := fun w => Read_none (s.extract q (q + 9)) w (by simp [ByteArray.size_extract, maxLen]; omega) hv
        have HC := Lib.hid C
        have hbad := hB9 hv
        have HBAD := Lib.hid hbad
        clear C hv hbad hR9 hB9
        go_wp2_with fail
        refine (HC.out _).mono ?_
        rintro e w2 ⟨rfl, hb2⟩
        have HB2 := Lib.hid (bl hB.out hb2)
        clear hb2
        go_wp2_with fail
        go_returns
        refine ⟨blA HB2.out _, ?_⟩
        rw [HBAD.out]; rfl
      | some v =>
        obtain ⟨k0, n0, s0⟩ := v
        have C := fun w => Read_some (s.extract q (q + 9)) w k0 n0 s0 hv
        have HC := Lib.hid C
        have hst := hR9 _ hv
        have HST := Lib.hid hst
        clear C hv hst hR9 hB9
        go_wp2_with fail
        refine (HC.out _).mono ?_
        rintro e w2 ⟨rfl, hb2⟩
        have HB2 := Lib.hid (bl hB.out hb2)
        have HO2 := Lib.hid (ownB hO.out hb2)
        clear hb2
        go_wp2_with (with_reducible refine wpList_append_own _ rfl (.tmp 35) (.tmp 37) 36 rfl w.heap.size 23 i0 (.agg #[.int .i64 0, .int .i64 0, .string ⟨#[]⟩]) 3 32 Tryd.underlying36 HI0.out HZ0.out HZ1.out HZ2.out rfl (by decide) _ _ _ rfl ((HO2.out.alloc _).alloc _) ⟨w2.heap.size + 1, 0, none⟩ 1 1 [.int .i64 k0, .int .i64 n0, .string s0] rfl rfl ?c1 ?c2 ?c3 ?c4 ?c5 ?_)
        case c1 =>
          intro j u hu
          rw [addr_zero]
          match j, hu with
          | 0, hu | 1, hu | 2, hu => go_simp; exact Option.some.inj hu
          | j + 3, hu => cases hu
        case c2 =>
          intro u hu
          simp only [List.mem_cons, List.not_mem_nil, or_false] at hu
          rcases hu with rfl | rfl | rfl <;> rfl
        case c3 => unfold maxLen; omega
        case c4 => omega
        case c5 => have := HB2.out.size; simp; omega
        intro v' w3 hown3 hgrow3 hne
        have hb3 : Below w.heap.size w w3 := by
          refine (blA (blA HB2.out _) _).grown hgrow3 (blA (blA HB2.out _) _).size ?_
          intro k' hk'
          exact (HO2.out.lt k' hk').1
        have hO3 : w3.ownsRow w.heap.size 23 3 v' (k + 1) (cellsV (l ++ [(k0, n0, s0)])) := by rw [cellsV_snoc]; exact hown3
        have HO3 := Lib.hid hO3
        have HB3 := Lib.hid hb3
        have HN := Lib.hid hne
        clear hown3 hgrow3 hne hb3 hO3
        go_wp2_with fail
        go_roundw
        case rel => exact ⟨k + 1, q + 9, l ++ [(k0, n0, s0)], by omega, by omega, by omega, by go_num, HST, HO3, by have := HN.out; simp [Hid, this], HB3⟩
        case measure => simp [intOf]; omega
    · obtain rfl : k = n := by omega
      clear hqe
      go_wp2_with fail
      go_returns
      refine ⟨hB.out, ?_⟩
      rw [hR.out]
      have hl := rdK_length hR.out
      exact ⟨_, rfl, by rw [hl]; exact hO.out, hN.out⟩
end Go.Proofs.YtciodlegkoeipaaDoor.Sg
