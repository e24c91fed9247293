import Derived.Test.YtfophlddijblmaaMnC
namespace Go.Proofs.Ytfophlddijblmaa.Mn
open Go.ChangeShapes Go.WideShapes Go.ChangeAt Go.RowKit Go.PlainAid Aid
set_option linter.unusedVariables false
set_option linter.unusedSimpArgs false

/-- The program's power and the document's are alike: a fuse below 0 is none. -/
def Sim (p q : Pw) : Prop := p.on = q.on ∧ p.boots = q.boots ∧ (p.fuse = q.fuse ∨ (p.fuse < 0 ∧ q.fuse < 0))
theorem sim_use {p q : Pw} (h : Sim p q) : Sim p.use q.use ∧ p.ans = q.ans := by
  obtain ⟨o, f, b⟩ := p
  obtain ⟨o', f', b'⟩ := q
  obtain ⟨h1, h2, h3⟩ := h
  simp only at h1 h2 h3
  subst h1; subst h2
  rcases h3 with rfl | ⟨h3, h4⟩
  · exact ⟨⟨rfl, rfl, Or.inl rfl⟩, rfl⟩
  · have a1 : ¬ f = 0 := by omega
    have a2 : ¬ f' = 0 := by omega
    have a3 : ¬ 0 < f := by omega
    have a4 : ¬ 0 < f' := by omega
    cases o <;> simp [Pw.use, Pw.ans, a1, a2, a3, a4, Sim, h3, h4]
theorem sim_lay {p q : Pw} (h : Sim p q) (n : Int) : Sim (p.lay n) (q.lay (if n < 0 then -1 else n)) := by
  refine ⟨h.1, h.2.1, ?_⟩
  show n = (if n < 0 then -1 else n) ∨ (n < 0 ∧ (if n < 0 then -1 else n) < 0)
  by_cases hn : n < 0
  · rw [if_pos hn]; omega
  · rw [if_neg hn]; exact Or.inl rfl
theorem sim_off {p q : Pw} (h : Sim p q) : Sim p.off q.off := ⟨rfl, h.2.1, h.2.2⟩
theorem sim_come {p q : Pw} (h : Sim p q) : Sim p.come q.come := by
  obtain ⟨o, f, b⟩ := p
  obtain ⟨o', f', b'⟩ := q
  obtain ⟨h1, h2, h3⟩ := h
  simp only at h1 h2 h3
  subst h1; subst h2
  cases o
  · exact ⟨rfl, rfl, Or.inl rfl⟩
  · exact ⟨rfl, rfl, h3⟩

set_option maxHeartbeats 1000000 in
theorem exact_none (A1 A2 : Option Addr) (m1 m2 c1 c2 : Nat) (w : World) (h : m1 = 0 ∨ m2 = 0) (hm1 : m1 ≤ maxLen) (hm2 : m2 ≤ maxLen) :
    Calls Try.prog 3 #[.slice A1 m1 c1, .slice A2 m2 c2] w fun e w' => e = .returned (.bool true) ∧ Below w.heap.size w w' := by
  unfold maxLen at hm1 hm2
  have key : ∀ (A1 A2 : Option Addr) (m1 m2 c1 c2 : Nat), True := fun _ _ _ _ _ _ => trivial
  by_cases h1 : m1 = 0
  · subst h1
    clear h
    go_enter Try.func3, Try.ntmps3
    go_wp2_with fail
    refine (awake_any _).mono ?_
    rintro e w1 ⟨rfl, hb1⟩
    have B1 := Lib.hid hb1
    clear hb1
    go_wp2_with fail
    refine (New_any _).mono ?_
    rintro e w2 ⟨rfl, hm2, hb2⟩
    have B2 := Lib.hid (blA (bl B1.out hb2) (.cells #[.bool true, .int .i64 (-1), .int .i64 1] 28))
    clear hb2 hm2
    go_wp2_with fail
    go_rounds 1
    go_returns
    exact ⟨rfl, B2.out⟩
  · obtain rfl : m2 = 0 := by omega
    have h1' : 0 < m1 := by omega
    clear h h1
    go_enter Try.func3, Try.ntmps3
    go_wp2_with fail
    refine (awake_any _).mono ?_
    rintro e w1 ⟨rfl, hb1⟩
    have B1 := Lib.hid hb1
    clear hb1
    go_wp2_with fail
    refine (New_any _).mono ?_
    rintro e w2 ⟨rfl, hm2, hb2⟩
    have B2 := Lib.hid (blA (bl B1.out hb2) (.cells #[.bool true, .int .i64 (-1), .int .i64 1] 28))
    clear hb2 hm2
    go_wp2_with fail
    go_rounds 1
    go_returns
    exact ⟨rfl, B2.out⟩

set_option maxHeartbeats 1000000 in
theorem exact_some (b1 o1 b2 o2 m1 m2 c1 c2 : Nat) (z1 z2 : Nat → Int) (w : World) (hm1 : m1 ≤ maxLen) (hm2 : m2 ≤ maxLen) (l1 : b1 < w.heap.size) (l2 : b2 < w.heap.size)
    (h1 : ∀ i, i < m1 → w.cell? ⟨b1, o1 + i, none⟩ = some (.int .i64 (z1 i))) (h2 : ∀ i, i < m2 → w.cell? ⟨b2, o2 + i, none⟩ = some (.int .i64 (z2 i)))
    (k2 : ∀ i, i < m2 → -9223372036854775808 ≤ z2 i ∧ z2 i ≤ 9223372036854775807) :
    Calls Try.prog 3 #[.slice (some ⟨b1, o1, none⟩) m1 c1, .slice (some ⟨b2, o2, none⟩) m2 c2] w fun e w' => e = .returned (.bool true) ∧ Below w.heap.size w w' := by
  unfold maxLen at hm1 hm2
  have C1 := Lib.hid h1
  have C2 := Lib.hid h2
  have K2 := Lib.hid k2
  clear h1 h2 k2
  go_enter Try.func3, Try.ntmps3
  go_wp2_with fail
  refine (awake_any _).mono ?_
  rintro e w1 ⟨rfl, hb1⟩
  have B1 := Lib.hid hb1
  clear hb1
  go_wp2_with fail
  refine (New_any _).mono ?_
  rintro e w2 ⟨rfl, hm2', hb2⟩
  have B2 := Lib.hid (bl B1.out hb2)
  have HG := Lib.hid (show w.heap.size ≤ w1.heap.size from B1.out.size)
  clear hb2
  generalize w1.heap.size = g at hm2' HG ⊢
  have H2 := Lib.hid hm2'
  clear hm2' B1
  go_wp2_with fail
  have B3 := Lib.hid (blA B2.out (.cells #[.bool true, .int .i64 (-1), .int .i64 1] 28))
  have H3 : Hid (Mn (w2.alloc (.cells #[.bool true, .int .i64 (-1), .int .i64 1] 28)) g ⟨true, -1, 1⟩) := H2.out.keep (S := fun _ => False) (Chg.of_below (blA (Below.refl _ _) _)) (fun h => h)
  have R3 : Hid (Rf (w2.alloc (.cells #[.bool true, .int .i64 (-1), .int .i64 1] 28)) w2.heap.size ⟨true, -1, 1⟩) := ⟨Blk.new _ _ _, by unfold Pw.ok; decide⟩
  have HG2 : Hid (w.heap.size ≤ w2.heap.size) := B2.out.size
  have HNE : Hid (g ≠ w2.heap.size) := by have := H2.out.lt; unfold Hid; omega
  generalize w2.alloc (.cells #[.bool true, .int .i64 (-1), .int .i64 1] 28) = w3 at B3 H3 R3 ⊢
  generalize w2.heap.size = g2 at R3 HG2 HNE ⊢
  clear H2 B2
  go_loopw [7] (fun i wr => ∃ (k : Nat) (p q : Pw), k ≤ m1 ∧ k ≤ m2 ∧ k ≤ 100 ∧ i = .int .i64 k ∧ Hid (Mn wr g p) ∧ Hid (Rf wr g2 q) ∧ Hid (Sim p q) ∧ Hid (Below w.heap.size w wr)) (fun i _ => 100 - (intOf i).toNat)
  case atStart => exact ⟨0, _, _, Nat.zero_le _, Nat.zero_le _, Nat.zero_le _, rfl, H3, R3, Lib.hid ⟨rfl, rfl, Or.inl rfl⟩, B3⟩
  case round =>
    clear H3 R3 B3
    obtain ⟨k, p, q, hk1, hk2, hk3, rfl, hM, hR, hS, hB⟩ := hrel
    by_cases hlt : k < m1 ∧ k < m2 ∧ k < 100
    · obtain ⟨i1, i2, i3⟩ := hlt
      have d1 : wr.cell? ⟨b1, o1 + k, none⟩ = some (.int .i64 (z1 k)) := by rw [(bcell hB.out).1 _ _ l1]; exact C1.out k i1
      have d2 : wr.cell? ⟨b2, o2 + k, none⟩ = some (.int .i64 (z2 k)) := by rw [(bcell hB.out).1 _ _ l2]; exact C2.out k i2
      obtain ⟨n0, n1⟩ := K2.out k i2
      have N0 := Lib.hid n0
      have N1 := Lib.hid n1
      clear n0 n1
      generalize z1 k = a at *
      generalize z2 k = n at *
      go_wp2_with fail
      refine wp_region_still_tail 9 (by kernel_rfl) (by kernel_rfl) ?_
      simp only [List.take_succ_cons, List.take_zero, List.drop_succ_cons, List.drop_zero]
      change wpStill _ _ wr.drew _ _ _
      repeat still_step
      refine wpStill_nil ?_
      change wpList _ _ _ _ _ wr.drew
      have M1 : Hid (Mn wr.drew g p) := hM
      have R1 : Hid (Rf wr.drew g2 q) := hR
      have B1 : Hid (Below w.heap.size w wr.drew) := hB.out.drew
      have d3 : wr.drew.cell? ⟨b1, o1 + k, none⟩ = some (.int .i64 a) := d1
      have d4 : wr.drew.cell? ⟨b2, o2 + k, none⟩ = some (.int .i64 n) := d2
      clear hM hR hB d1 d2
      generalize wr.drew = w4 at *
      go_wp2_with fail
      refine (Do_any _ _ _ _ _ R1.out N0.out N1.out).mono ?_
      rintro e w5 ⟨rfl, hr5, hb5⟩
      have R2 := Lib.hid hr5
      have M2 := Lib.hid (M1.out.keep hb5 HNE.out)
      have d5 : w5.cell? ⟨b1, o1 + k, none⟩ = some (.int .i64 a) := by rw [hb5.cell (by have := B1.out.size; omega) (by have := HG2.out; omega)]; exact d3
      have d6 : w5.cell? ⟨b2, o2 + k, none⟩ = some (.int .i64 n) := by rw [hb5.cell (by have := B1.out.size; omega) (by have := HG2.out; omega)]; exact d4
      have B2 := Lib.hid (bl1 B1.out hb5 B1.out.size HG2.out)
      clear hr5 hb5 M1 R1 B1 d3 d4
      have hc : a = 1 ∨ a = 2 ∨ a = 3 ∨ a = 4 ∨ (a ≠ 1 ∧ a ≠ 2 ∧ a ≠ 3 ∧ a ≠ 4) := by omega
      rcases hc with rfl | rfl | rfl | rfl | hc
      · have e1 : q.said 1 = p.ans := by simp [Pw.said]; exact (sim_use hS.out).2.symm
        have e2 : q.did 1 n = q.use := by simp [Pw.did]
        rw [e2] at R2
        rw [e1]
        have S3 := Lib.hid (sim_use hS.out).1
        clear e1 e2 hS
        go_wp2_with fail
        refine (Use_any _ _ _ M2.out).mono ?_
        rintro e w6 ⟨rfl, hm6, hb6⟩
        have M3 := Lib.hid hm6
        have R3 := Lib.hid (R2.out.keep hb6 (fun h => HNE.out h.symm))
        have B3 := Lib.hid (bl1 B2.out hb6 B2.out.size HG.out)
        clear hm6 hb6 M2 R2 B2
        obtain ⟨e0, e1, e2, -, -, -⟩ := R3.out.facts
        rw [← S3.out.1] at e0
        rw [← S3.out.2.1] at e2
        go_wp2_with fail
        go_quiet ((first | exact Calls.quiet_of_same ((IsOn_any _ _ _ (M3.out.drewN _)).mono fun _ _ h => ⟨h.1, h.2.symm⟩) | exact Calls.quiet_of_same ((Boots_any _ _ _ (M3.out.drewN _)).mono fun _ _ h => ⟨h.1, h.2.symm⟩)))
        have B4 : Hid (Below w.heap.size w (w6.drewN nq)) := blN B3.out nq
        have M4 : Hid (Mn (w6.drewN nq) g _) := M3
        have R4 : Hid (Rf (w6.drewN nq) g2 _) := R3
        clear M3 R3 B3 e0 e1 e2
        generalize w6.drewN nq = w7 at *
        go_wp2_with fail
        go_roundw
        case rel => exact ⟨k + 1, _, _, by omega, by omega, by omega, by go_num, M4, R4, S3, B4⟩
        case measure => simp [intOf]; omega
      · have e1 : q.said 2 = 0 := by simp [Pw.said]
        have e2 : q.did 2 n = q.lay (if n < 0 then -1 else n) := by simp [Pw.did]
        rw [e2] at R2
        rw [e1]
        have S3 := Lib.hid (sim_lay hS.out n)
        clear e1 e2 hS
        go_wp2_with fail
        refine (Fuse_any _ _ _ _ M2.out N0.out N1.out).mono ?_
        rintro e w6 ⟨rfl, hm6, hb6⟩
        have M3 := Lib.hid hm6
        have R3 := Lib.hid (R2.out.keep hb6 (fun h => HNE.out h.symm))
        have B3 := Lib.hid (bl1 B2.out hb6 B2.out.size HG.out)
        clear hm6 hb6 M2 R2 B2
        obtain ⟨e0, e1, e2, -, -, -⟩ := R3.out.facts
        rw [← S3.out.1] at e0
        rw [← S3.out.2.1] at e2
        go_wp2_with fail
        go_quiet ((first | exact Calls.quiet_of_same ((IsOn_any _ _ _ (M3.out.drewN _)).mono fun _ _ h => ⟨h.1, h.2.symm⟩) | exact Calls.quiet_of_same ((Boots_any _ _ _ (M3.out.drewN _)).mono fun _ _ h => ⟨h.1, h.2.symm⟩)))
        have B4 : Hid (Below w.heap.size w (w6.drewN nq)) := blN B3.out nq
        have M4 : Hid (Mn (w6.drewN nq) g _) := M3
        have R4 : Hid (Rf (w6.drewN nq) g2 _) := R3
        clear M3 R3 B3 e0 e1 e2
        generalize w6.drewN nq = w7 at *
        go_wp2_with fail
        go_roundw
        case rel => exact ⟨k + 1, _, _, by omega, by omega, by omega, by go_num, M4, R4, S3, B4⟩
        case measure => simp [intOf]; omega
      · have e1 : q.said 3 = 0 := by simp [Pw.said]
        have e2 : q.did 3 n = q.off := by simp [Pw.did]
        rw [e2] at R2
        rw [e1]
        have S3 := Lib.hid (sim_off hS.out)
        clear e1 e2 hS
        go_wp2_with fail
        refine (Off_any _ _ _ M2.out).mono ?_
        rintro e w6 ⟨rfl, hm6, hb6⟩
        have M3 := Lib.hid hm6
        have R3 := Lib.hid (R2.out.keep hb6 (fun h => HNE.out h.symm))
        have B3 := Lib.hid (bl1 B2.out hb6 B2.out.size HG.out)
        clear hm6 hb6 M2 R2 B2
        obtain ⟨e0, e1, e2, -, -, -⟩ := R3.out.facts
        rw [← S3.out.1] at e0
        rw [← S3.out.2.1] at e2
        go_wp2_with fail
        go_quiet ((first | exact Calls.quiet_of_same ((IsOn_any _ _ _ (M3.out.drewN _)).mono fun _ _ h => ⟨h.1, h.2.symm⟩) | exact Calls.quiet_of_same ((Boots_any _ _ _ (M3.out.drewN _)).mono fun _ _ h => ⟨h.1, h.2.symm⟩)))
        have B4 : Hid (Below w.heap.size w (w6.drewN nq)) := blN B3.out nq
        have M4 : Hid (Mn (w6.drewN nq) g _) := M3
        have R4 : Hid (Rf (w6.drewN nq) g2 _) := R3
        clear M3 R3 B3 e0 e1 e2
        generalize w6.drewN nq = w7 at *
        go_wp2_with fail
        go_roundw
        case rel => exact ⟨k + 1, _, _, by omega, by omega, by omega, by go_num, M4, R4, S3, B4⟩
        case measure => simp [intOf]; omega
      · have e1 : q.said 4 = 0 := by simp [Pw.said]
        have e2 : q.did 4 n = q.come := by simp [Pw.did]
        rw [e2] at R2
        rw [e1]
        have S3 := Lib.hid (sim_come hS.out)
        clear e1 e2 hS
        go_wp2_with fail
        refine (On_any _ _ _ M2.out).mono ?_
        rintro e w6 ⟨rfl, hm6, hb6⟩
        have M3 := Lib.hid hm6
        have R3 := Lib.hid (R2.out.keep hb6 (fun h => HNE.out h.symm))
        have B3 := Lib.hid (bl1 B2.out hb6 B2.out.size HG.out)
        clear hm6 hb6 M2 R2 B2
        obtain ⟨e0, e1, e2, -, -, -⟩ := R3.out.facts
        rw [← S3.out.1] at e0
        rw [← S3.out.2.1] at e2
        go_wp2_with fail
        go_quiet ((first | exact Calls.quiet_of_same ((IsOn_any _ _ _ (M3.out.drewN _)).mono fun _ _ h => ⟨h.1, h.2.symm⟩) | exact Calls.quiet_of_same ((Boots_any _ _ _ (M3.out.drewN _)).mono fun _ _ h => ⟨h.1, h.2.symm⟩)))
        have B4 : Hid (Below w.heap.size w (w6.drewN nq)) := blN B3.out nq
        have M4 : Hid (Mn (w6.drewN nq) g _) := M3
        have R4 : Hid (Rf (w6.drewN nq) g2 _) := R3
        clear M3 R3 B3 e0 e1 e2
        generalize w6.drewN nq = w7 at *
        go_wp2_with fail
        go_roundw
        case rel => exact ⟨k + 1, _, _, by omega, by omega, by omega, by go_num, M4, R4, S3, B4⟩
        case measure => simp [intOf]; omega
      · have e1 : q.said a = 0 := by simp [Pw.said, hc.1]
        have e2 : q.did a n = q := by simp [Pw.did, hc.1, hc.2.1, hc.2.2.1, hc.2.2.2]
        rw [e2] at R2
        rw [e1]
        have S3 := hS
        have x1 : (a == 1) = false := beq_eq_false_iff_ne.2 hc.1
        have x2 : (a == 2) = false := beq_eq_false_iff_ne.2 hc.2.1
        have x3 : (a == 3) = false := beq_eq_false_iff_ne.2 hc.2.2.1
        have x4 : (a == 4) = false := beq_eq_false_iff_ne.2 hc.2.2.2
        clear e1 e2 hS hc
        have M3 := M2
        have R3 := R2
        have B3 := B2
        clear M2 R2 B2
        obtain ⟨w6, rfl⟩ : ∃ w6 : World, w6 = w5 := ⟨_, rfl⟩
        obtain ⟨e0, e1, e2, -, -, -⟩ := R3.out.facts
        rw [← S3.out.1] at e0
        rw [← S3.out.2.1] at e2
        go_wp2_with fail
        go_quiet ((first | exact Calls.quiet_of_same ((IsOn_any _ _ _ (M3.out.drewN _)).mono fun _ _ h => ⟨h.1, h.2.symm⟩) | exact Calls.quiet_of_same ((Boots_any _ _ _ (M3.out.drewN _)).mono fun _ _ h => ⟨h.1, h.2.symm⟩)))
        have B4 : Hid (Below w.heap.size w (w6.drewN nq)) := blN B3.out nq
        have M4 : Hid (Mn (w6.drewN nq) g _) := M3
        have R4 : Hid (Rf (w6.drewN nq) g2 _) := R3
        clear M3 R3 B3 e0 e1 e2
        generalize w6.drewN nq = w7 at *
        go_wp2_with fail
        go_roundw
        case rel => exact ⟨k + 1, _, _, by omega, by omega, by omega, by go_num, M4, R4, S3, B4⟩
        case measure => simp [intOf]; omega
    · have B3 := hB
      by_cases j1 : k < m1
      · by_cases j2 : k < m2
        · have j3 : (100 : Int) ≤ (k : Int) := by omega
          clear hlt
          go_wp2_with fail
          go_returns
          exact ⟨rfl, B3.out⟩
        · clear hlt
          go_wp2_with fail
          go_returns
          exact ⟨rfl, B3.out⟩
      · clear hlt
        go_wp2_with fail
        go_returns
        exact ⟨rfl, B3.out⟩
end Go.Proofs.Ytfophlddijblmaa.Mn
