import Derived.Test.YtalaipmhihokjaaSlX
import Derived.Deep.CutBlock
import Derived.Deep.DeepCutAuto
import Derived.Deep.LoopGhost
import Derived.Deep.RegionWith
namespace Go.Proofs.Ytalaipmhihokjaa.Sl
open Go.ChangeShapes Go.WideShapes Go.ChangeAt Go.RowKit Go.PlainAid Aid Mn
set_option linter.unusedVariables false
set_option linter.unusedSimpArgs false

theorem Do_as (g : Nat) (p : Pw) (n : Int) (w : World) (h : Rf w g p) (a : Int) (ha : p.ans = a) :
    Calls Try.prog 12 #[.pointer (some ⟨g, 0, Option.none⟩), .int .i64 1, .int .i64 n] w fun e w' => e = .returned (.int .i64 a) ∧ Rf w' g p.use ∧ Chg (· = g) w w' := by
  subst ha; exact Do_use g p n w h
theorem Do_off (g : Nat) (p : Pw) (w : World) (h : Rf w g p) :
    Calls Try.prog 12 #[.pointer (some ⟨g, 0, Option.none⟩), .int .i64 3, .int .i64 0] w fun e w' => e = .returned (.int .i64 0) ∧ Rf w' g p.off ∧ Chg (· = g) w w' := by
  have := Do_any g p 3 0 w h (by decide) (by decide)
  rw [show p.said 3 = 0 by simp [Pw.said], show p.did 3 0 = p.off by simp [Pw.did]] at this
  exact this
theorem Do_on (g : Nat) (p : Pw) (w : World) (h : Rf w g p) :
    Calls Try.prog 12 #[.pointer (some ⟨g, 0, Option.none⟩), .int .i64 4, .int .i64 0] w fun e w' => e = .returned (.int .i64 0) ∧ Rf w' g p.come ∧ Chg (· = g) w w' := by
  have := Do_any g p 4 0 w h (by decide) (by decide)
  rw [show p.said 4 = 0 by simp [Pw.said], show p.did 4 0 = p.come by simp [Pw.did]] at this
  exact this
theorem Do_fuse (g : Nat) (p : Pw) (n : Int) (w : World) (h : Rf w g p) (hn : I64 n) :
    Calls Try.prog 12 #[.pointer (some ⟨g, 0, Option.none⟩), .int .i64 2, .int .i64 n] w fun e w' => e = .returned (.int .i64 0) ∧ Rf w' g (p.lay (if n < 0 then -1 else n)) ∧ Chg (· = g) w w' := by
  have := Do_any g p 2 n w h hn.1 hn.2
  rw [show p.said 2 = 0 by simp [Pw.said], show p.did 2 n = p.lay (if n < 0 then -1 else n) by simp [Pw.did]] at this
  exact this
set_option maxRecDepth 100000 in
theorem stop_big (n : Int) (A : Option Addr) (m c : Nat) (w : World) (h : 20 < n) :
    Calls Try.prog 3 #[.int .i64 n, .slice A m c] w fun e w' => e = .returned (.bool true) ∧ Below w.heap.size w w' := by
  go_enter Try.func3, Try.ntmps3
  go_wp2_with fail
  refine (awake_any _).mono ?_
  rintro e w0 ⟨rfl, hb⟩
  have B0 := Lib.hid (hb)
  clear hb 
  go_wp2_with fail
  go_returns
  exact ⟨rfl, B0.out⟩
set_option maxRecDepth 100000 in
set_option maxHeartbeats 4000000 in
theorem exact_any (n : Int) (A : Option Addr) (m1 cc : Nat) (z : Nat → Nat → Int) (w : World) (h : n ≤ 20) (hm : m1 ≤ maxLen) (x1 : IntRows w A m1 3 z) :
    Calls Try.prog 3 #[.int .i64 n, .slice A m1 cc] w fun e w' => e = .returned (.bool true) ∧ Below w.heap.size w w' := by
  unfold maxLen at hm
  have X1 := Lib.hid x1
  have HD := fun m q w h => New_any m n q w h
  have HR := fun w => refNew_any n w
  have hN := near_le n
  generalize near n = N at *
  have HD1 := Lib.hid HD
  have HR1 := Lib.hid HR
  clear HD HR
  have hn20 : decide (20 < n) = false := by simpa using h
  clear x1
  go_enter Try.func3, Try.ntmps3
  go_wp2_with fail
  refine (awake_any _).mono ?_
  rintro e w0 ⟨rfl, hb⟩
  have B0 := Lib.hid (hb)
  clear hb 
  go_wp2_with fail
  refine (Mn.New_any _).mono ?_
  rintro e w1 ⟨rfl, hm1, hb1⟩
  go_wp2_with fail
  have hu1 : Rf (w1.alloc (.cells #[.bool true, .int .i64 (-1), .int .i64 1] 28)) w1.heap.size ⟨true, -1, 1⟩ := ⟨Blk.new _ _ _, by unfold Pw.ok; decide⟩
  have hm2 := hm1.keep (S := fun _ => False) (Chg.of_below (blA (Below.refl _ w1) (.cells #[.bool true, .int .i64 (-1), .int .i64 1] 28))) id
  refine (HD1.out _ _ _ hm2).mono ?_
  rintro e w2 ⟨rfl, hd2, hb2⟩
  go_wp2_with fail
  refine (HR1.out _).mono ?_
  rintro e w3 ⟨gr, bn, bs, bf, rfl, k1, k2, k3, k4, hr3, hb3⟩
  have S0 : Hid (St w w3 (w1.heap.size + 1 + 1) w0.heap.size (w1.heap.size + 1) N w1.heap.size gr bn bs bf (fun _ => Pg.none) (fun _ => Pg.none) ⟨true, -1, 1⟩ ⟨true, -1, 1⟩) := by
    have s0 := B0.out.size
    have s1 := hm1.lt
    have s2 := hb2.size
    simp at s2 hd2
    exact ⟨hd2.below hb3, (hu1.keep (S := fun _ => False) (Chg.of_below hb2) id).keep (S := fun _ => False) (Chg.of_below hb3) id, hr3, bl (bl (blA (bl B0.out hb1) _) hb2) hb3, s0, by omega, by omega, by omega, by have := hd2.disk.lt; omega, by have := hd2.disk.lt; omega, by have := hd2.disk.lt; omega, by have := hd2.disk.lt; omega⟩
  clear hm1 hb1 hu1 hm2 hd2 hb2 k1 k2 k3 k4 hr3 hb3 B0 HD1 HR1
  generalize w1.heap.size + 1 + 1 = g at *
  generalize w1.heap.size + 1 = b at *
  generalize w1.heap.size = gu at *
  generalize w0.heap.size = m at *
  go_wp2_with fail
  go_loopg [9] 60 (fun gk i wr => ∃ (r : Nat) (P : Nat → Pg) (q q' : Pw), r ≤ 60 ∧ r ≤ m1 ∧ gk = 60 - r ∧ i = .int .i64 r ∧ Hid (St w wr g m b N gu gr bn bs bf P P q q') ∧ Hid (Inv P ∧ Sim q q'))
  case atStart => exact ⟨0, _, _, _, Nat.zero_le _, Nat.zero_le _, rfl, rfl, S0, Lib.hid ⟨fun _ _ => rfl, rfl, rfl, Or.inl rfl⟩⟩
  case round =>
    clear S0
    obtain ⟨r, P, q, q', hr60, hrm, hgk, rfl, hS, hI⟩ := hrel
    by_cases hlt : r < m1 ∧ r < 60
    · obtain ⟨i1, i2⟩ := hlt
      obtain ⟨ba, oa, rfl, hba, hca, hza⟩ := X1.out.at r i1 _ hS.out.bel
      have c0 := hca 0 (by omega)
      have c1 := hca 1 (by omega)
      have c2 := hca 2 (by omega)
      have z1 := hza 1 (by omega)
      have z2 := hza 2 (by omega)
      simp only [Nat.add_zero] at c0
      clear hca hza
      generalize z r 0 = a at *
      generalize z r 1 = p at *
      generalize z r 2 = nn at *
      have S1 := Lib.hid (hS.out.below (blA (Below.refl _ _) (.cells #[.int .i64 a, .int .i64 p, .int .i64 nn] 34)))
      have X2 := Lib.hid (Xb.new hS.out a p nn)
      have Z1 := Lib.hid z1
      have Z2 := Lib.hid z2
      clear z1 z2
      by_cases hin : 0 ≤ p ∧ p < (N : Int)
      · obtain ⟨k, rfl⟩ : ∃ k : Nat, p = k := ⟨p.toNat, by omega⟩
        have hk : k < N := by omega
        clear hin
        go_wp2_with fail
        clear c0 c1 c2
        obtain ⟨gx, hgx⟩ : ∃ gx, gx = wr.heap.size := ⟨_, rfl⟩
        rw [← hgx] at X2 ⊢
        clear hgx hS
        generalize wr.alloc (.cells #[.int .i64 a, .int .i64 (k : Int), .int .i64 nn] 34) = w4 at *
        obtain ⟨c0, c1, c2⟩ := X2.out.facts
        obtain ⟨f0, f1, f2⟩ := S1.out.rd.facts
        go_quiet (fail)
        have S2 : Hid (St w (w4.drewN nq) g m b N gu gr bn bs bf P P q q') := S1.out.drewN nq
        have X3 : Hid (Xb (w4.drewN nq) gx m b gu bn bs bf a k nn) := X2.out.below (blN (Below.refl _ _) nq)
        clear c0 c1 c2 f0 f1 f2 S1 X2
        generalize w4.drewN nq = w5 at *
        obtain ⟨c0, c1, c2⟩ := X3.out.facts
        go_upto_block 2 with fail
        go_cut [] (fun wx => ∃ (P : Nat → Pg) (q q' : Pw), Hid (St w wx g m b N gu gr bn bs bf P P q q') ∧ Hid (Inv P ∧ Sim q q') ∧ Hid (Xb wx gx m b gu bn bs bf a k nn))
        case first =>
          have hc : a = 1 ∨ a = 2 ∨ a = 3 ∨ a = 4 ∨ a = 5 ∨ a = 6 ∨ (a ≠ 1 ∧ a ≠ 2 ∧ a ≠ 3 ∧ a ≠ 4 ∧ a ≠ 5 ∧ a ≠ 6) := by omega
          rcases hc with rfl | rfl | rfl | rfl | rfl | rfl | hc
          · have HSd := Lib.hid S2.out.drew
            have HXd := Lib.hid (X3.out.below (blN (Below.refl _ _) 1))
            rcases ans_cases q with hq | hq
            · as_aux_lemma =>
              have HQ := Lib.hid hq
              have hq2 := (sim_use hI.out.2).2.symm.trans hq
              have HQ2 := Lib.hid hq2
              clear hq hq2
              go_wp2_with fail
              go_region_held3 (fun W => W.cell? ⟨gx, 1, Option.none⟩ = some (.int .i64 (k : Int)) ∧ W.cell? ⟨gx, 2, Option.none⟩ = some (.int .i64 nn)) (first | exact ⟨c1, c2⟩ | exact ⟨y20.2.1, y20.2.2⟩ | exact ⟨y21.2.1, y21.2.2⟩)
                (first | (go_at_call 11; refine (page_any nn _).mono ?_; rintro e w20 ⟨rfl, hb20⟩; have s20 := Lib.hid (HSd.out.below hb20); have x20 := Lib.hid (HXd.out.below hb20); have y20 := x20.out.facts) | (go_at_call 10; refine (Write_ok _ _ _ _ _ _ k _ _ s20.out.dk hk (pageS_size _) HQ.out).mono ?_; rintro e w21 ⟨rfl, hd21, hc21⟩; have s21 := Lib.hid (s20.out.chgD hd21 hc21); have x21 := Lib.hid (x20.out.chgD hc21); have y21 := x21.out.facts))
              clear c0 c1 c2 HSd HXd y20 y21 s20 x20 hb20 hd21 hc21 S2 X3
              obtain ⟨c0, c1, c2⟩ := x21.out.facts
              go_wp2_with fail
              refine (Do_as _ _ _ _ s21.out.rf 0 HQ2.out).mono ?_
              rintro e w22 ⟨rfl, hr22, hc22⟩
              have s22 := Lib.hid (s21.out.chgU hr22 hc22)
              have x22 := Lib.hid (x21.out.chgU hc22)
              clear c0 c1 c2 hr22 hc22 s21 x21
              obtain ⟨c0, c1, c2⟩ := x22.out.facts
              obtain ⟨f0, f1, f2⟩ := s22.out.rd.facts
              go_wp2_with fail
              have HSd := Lib.hid s22.out.drew
              have HXd := Lib.hid (x22.out.below (blN (Below.refl _ _) 1))
              have hsm := hN
              go_region_held3 (fun W => W.cell? ⟨gr, 0, Option.none⟩ = some (.slice (some ⟨bn, 0, Option.none⟩) N N) ∧ W.cell? ⟨gx, 1, Option.none⟩ = some (.int .i64 (k : Int)) ∧ W.cell? ⟨gx, 2, Option.none⟩ = some (.int .i64 nn)) (first | exact ⟨f0, c1, c2⟩ | exact ⟨z23.1, y23.2.1, y23.2.2⟩ | exact ⟨(s23.out.rd.setNow k (pageS nn)).facts.1, (x23.out.chgR ((Chg.refl _ _).setCell (fun _ => Or.inl rfl) _)).facts.2⟩)
                ((go_at_call 11; refine (page_any nn _).mono ?_; rintro e w23 ⟨rfl, hb23⟩; have s23 := Lib.hid (HSd.out.below hb23); have x23 := Lib.hid (HXd.out.below hb23); have y23 := x23.out.facts; have z23 := s23.out.rd.facts; have d23 := s23.out.rd.now.cell hk; have e23 := s23.out.rd.now.free k))
              have hc24 : Chg (RS bn bs bf) w23 (w23.setCell ⟨bn, k, Option.none⟩ (.string (pageS nn))) := (Chg.refl _ _).setCell (fun _ => Or.inl rfl) _
              have s24 := Lib.hid (s23.out.chgR (s23.out.rd.setNow k (pageS nn)) hc24)
              have x24 := Lib.hid (x23.out.chgR hc24)
              clear c0 c1 c2 f0 f1 f2 HSd HXd hb23 y23 z23 d23 e23 s23 x23 s22 x22 hc24
              generalize w23.setCell ⟨bn, k, Option.none⟩ (.string (pageS nn)) = w24 at *
              obtain ⟨c0, c1, c2⟩ := x24.out.facts
              obtain ⟨f0, f1, f2⟩ := s24.out.rd.facts
              go_wp2_with fail
              refine wp_region_still_tail 7 (by kernel_rfl) (by kernel_rfl) ?_
              simp only [List.take_succ_cons, List.take_zero, List.drop_succ_cons, List.drop_zero]
              change wpStill _ _ w24.drew _ _ _
              repeat still_step
              refine wpStill_nil ?_
              change wpList _ _ _ _ _ w24.drew
              have s25 := Lib.hid s24.out.drew
              have x25 := Lib.hid (x24.out.below (blN (Below.refl _ _) 1))
              clear c0 c1 c2 f0 f1 f2 s24 x24
              change Hid (Xb w24.drew gx m b gu bn bs bf 1 (k : Int) nn) at x25
              generalize w24.drew = w25 at *
              have g0 := s25.out.rd.fresh.cell hk
              have g1 := s25.out.rd.fresh.free k
              go_wp2_with fail
              have hc26 : Chg (RS bn bs bf) w25 (w25.setCell ⟨bf, k, Option.none⟩ (.bool true)) := (Chg.refl _ _).setCell (fun _ => Or.inr (Or.inr rfl)) _
              have s26 := s25.out.chgR (s25.out.rd.setFresh k true) hc26
              have x26 := Lib.hid (x25.out.chgR hc26)
              rw [upd_upd, upd_same] at s26
              have S26 := Lib.hid s26
              go_meet
              case rel => exact ⟨_, _, _, S26, Lib.hid ⟨hI.out.1.write k (pageS nn), (sim_use hI.out.2).1⟩, x26⟩
            · as_aux_lemma =>
              have HQ := Lib.hid hq
              have hq2 := (sim_use hI.out.2).2.symm.trans hq
              have HQ2 := Lib.hid hq2
              clear hq hq2
              go_wp2_with fail
              go_region_held3 (fun W => W.cell? ⟨gx, 1, Option.none⟩ = some (.int .i64 (k : Int)) ∧ W.cell? ⟨gx, 2, Option.none⟩ = some (.int .i64 nn)) (first | exact ⟨c1, c2⟩ | exact ⟨y20.2.1, y20.2.2⟩ | exact ⟨y21.2.1, y21.2.2⟩)
                (first | (go_at_call 11; refine (page_any nn _).mono ?_; rintro e w20 ⟨rfl, hb20⟩; have s20 := Lib.hid (HSd.out.below hb20); have x20 := Lib.hid (HXd.out.below hb20); have y20 := x20.out.facts) | (go_at_call 10; refine (Write_down _ _ _ _ _ _ k _ _ s20.out.dk hk (pageS_size _) HQ.out).mono ?_; rintro e w21 ⟨rfl, hd21, hc21⟩; have s21 := Lib.hid (s20.out.chgD hd21 hc21); have x21 := Lib.hid (x20.out.chgD hc21); have y21 := x21.out.facts))
              clear c0 c1 c2 HSd HXd y20 y21 s20 x20 hb20 hd21 hc21 S2 X3
              obtain ⟨c0, c1, c2⟩ := x21.out.facts
              go_wp2_with fail
              refine (Do_as _ _ _ _ s21.out.rf 4 HQ2.out).mono ?_
              rintro e w22 ⟨rfl, hr22, hc22⟩
              have s22 := Lib.hid (s21.out.chgU hr22 hc22)
              have x22 := Lib.hid (x21.out.chgU hc22)
              clear c0 c1 c2 hr22 hc22 s21 x21
              go_wp2_with fail
              go_meet
              case rel => exact ⟨_, _, _, s22, Lib.hid ⟨hI.out.1, (sim_use hI.out.2).1⟩, x22⟩
          · rcases ans_cases q with hq | hq
            · as_aux_lemma =>
              have hq2 := (sim_use hI.out.2).2.symm.trans hq
              have HQ := Lib.hid hq
              have HQ2 := Lib.hid hq2
              clear hq hq2 c0 c1 c2
              go_wp2_with fail
              refine (Do_as _ _ _ _ S2.out.rf 0 HQ2.out).mono ?_
              rintro e w22 ⟨rfl, hr22, hc22⟩
              have s22 := Lib.hid (S2.out.chgU hr22 hc22)
              have x22 := Lib.hid (X3.out.chgU hc22)
              clear hr22 hc22 S2 X3
              go_wp2_with fail
              refine (Sync_ok _ _ _ _ _ _ _ s22.out.dk HQ.out).mono ?_
              rintro e w23 ⟨rfl, hd23, hc23⟩
              have s23 := Lib.hid (s22.out.chgD hd23 hc23)
              have x23 := Lib.hid (x22.out.chgD hc23)
              clear hd23 hc23 s22 x22
              go_wp2_with fail
              refine (refSync_any _ _ _ _ _ _ _ s23.out.rd).mono ?_
              rintro e w24 ⟨rfl, hd24, hc24⟩
              have s24 := Lib.hid (s23.out.chgR hd24 hc24)
              have x24 := Lib.hid (x23.out.chgR hc24)
              clear hd24 hc24 s23 x23
              go_wp2_with fail
              go_meet
              case rel => exact ⟨_, _, _, s24, Lib.hid ⟨Inv.sync _, (sim_use hI.out.2).1⟩, x24⟩
            · as_aux_lemma =>
              have hq2 := (sim_use hI.out.2).2.symm.trans hq
              have HQ := Lib.hid hq
              have HQ2 := Lib.hid hq2
              clear hq hq2 c0 c1 c2
              go_wp2_with fail
              refine (Do_as _ _ _ _ S2.out.rf 4 HQ2.out).mono ?_
              rintro e w22 ⟨rfl, hr22, hc22⟩
              have s22 := Lib.hid (S2.out.chgU hr22 hc22)
              have x22 := Lib.hid (X3.out.chgU hc22)
              clear hr22 hc22 S2 X3
              go_wp2_with fail
              refine (Sync_down _ _ _ _ _ _ _ s22.out.dk HQ.out).mono ?_
              rintro e w23 ⟨rfl, hd23, hc23⟩
              have s23 := Lib.hid (s22.out.chgD hd23 hc23)
              have x23 := Lib.hid (x22.out.chgD hc23)
              clear hd23 hc23 s22 x22
              go_wp2_with fail
              go_meet
              case rel => exact ⟨_, _, _, s23, Lib.hid ⟨hI.out.1, (sim_use hI.out.2).1⟩, x23⟩
          · cases hq : q.on
            · as_aux_lemma =>
              have HQ := Lib.hid hq
              clear hq
              go_wp2_with fail
              refine (Settle_off _ _ _ _ _ _ _ _ S2.out.dk HQ.out).mono ?_
              rintro e w22 ⟨rfl, hd22, hc22⟩
              have hc22 := hc22.mono (T := DS m b) (fun _ _ e => Or.inr e)
              have s22 := Lib.hid (S2.out.chgD hd22 hc22)
              have x22 := Lib.hid (X3.out.chgD hc22)
              clear hd22 hc22 S2 X3 c0 c1 c2
              obtain ⟨c0, c1, c2⟩ := x22.out.facts
              obtain ⟨e0, -, -, -, -, -⟩ := s22.out.rf.facts
              rw [← hI.out.2.1, HQ.out] at e0
              go_wp2_with fail
              refine (refSettle_any _ _ _ _ _ _ _ _ s22.out.rd).mono ?_
              rintro e w23 ⟨rfl, hd23, hc23⟩
              have s23 := Lib.hid (s22.out.chgR (hd23.congr (Q := settled P nn N) (fun i hi => settled_secure hI.out.1 nn N i hi)) hc23)
              have x23 := Lib.hid (x22.out.chgR hc23)
              clear hd23 hc23 s22 x22 e0 c0 c1 c2
              go_wp2_with fail
              go_meet
              case rel => exact ⟨_, _, _, s23, Lib.hid ⟨hI.out.1.settled nn N, hI.out.2⟩, x23⟩
            · as_aux_lemma =>
              have HQ := Lib.hid hq
              obtain ⟨e0, -, -, -, -, -⟩ := S2.out.rf.facts
              rw [← hI.out.2.1, hq] at e0
              clear hq
              go_wp2_with fail
              refine (Settle_on _ _ _ _ _ _ _ _ S2.out.dk HQ.out).mono ?_
              rintro e w' ⟨rfl, rfl⟩
              go_wp2_with fail
              go_roundg (60 - (r + 1))
              case measure => omega
              case rel => exact ⟨r + 1, _, _, _, by omega, by omega, rfl, by go_num, S2, hI⟩
          · as_aux_lemma =>
            go_wp2_with fail
            refine (Off_dk S2.out.dk).mono ?_
            rintro e w22 ⟨rfl, hd22, hc22⟩
            have hc22 := hc22.mono (T := DS m b) (fun _ _ e => Or.inl e)
            have s22 := Lib.hid (S2.out.chgD hd22 hc22)
            have x22 := Lib.hid (X3.out.chgD hc22)
            clear hd22 hc22 S2 X3 c0 c1 c2
            obtain ⟨c0, c1, c2⟩ := x22.out.facts
            go_wp2_with fail
            refine (Do_off _ _ _ s22.out.rf).mono ?_
            rintro e w23 ⟨rfl, hd23, hc23⟩
            have s23 := Lib.hid (s22.out.chgU hd23 hc23)
            have x23 := Lib.hid (x22.out.chgU hc23)
            clear hd23 hc23 s22 x22 c0 c1 c2
            go_wp2_with fail
            go_meet
            case rel => exact ⟨_, _, _, s23, Lib.hid ⟨hI.out.1, sim_off hI.out.2⟩, x23⟩
          · as_aux_lemma =>
            go_wp2_with fail
            refine (On_dk S2.out.dk).mono ?_
            rintro e w22 ⟨rfl, hd22, hc22⟩
            have hc22 := hc22.mono (T := DS m b) (fun _ _ e => Or.inl e)
            have s22 := Lib.hid (S2.out.chgD hd22 hc22)
            have x22 := Lib.hid (X3.out.chgD hc22)
            clear hd22 hc22 S2 X3 c0 c1 c2
            obtain ⟨c0, c1, c2⟩ := x22.out.facts
            go_wp2_with fail
            refine (Do_on _ _ _ s22.out.rf).mono ?_
            rintro e w23 ⟨rfl, hd23, hc23⟩
            have s23 := Lib.hid (s22.out.chgU hd23 hc23)
            have x23 := Lib.hid (x22.out.chgU hc23)
            clear hd23 hc23 s22 x22 c0 c1 c2
            go_wp2_with fail
            go_meet
            case rel => exact ⟨_, _, _, s23, Lib.hid ⟨hI.out.1, sim_come hI.out.2⟩, x23⟩
          · as_aux_lemma =>
            go_wp2_with fail
            refine (Fuse_dk S2.out.dk nn Z2.out.1 Z2.out.2).mono ?_
            rintro e w22 ⟨rfl, hd22, hc22⟩
            have hc22 := hc22.mono (T := DS m b) (fun _ _ e => Or.inl e)
            have s22 := Lib.hid (S2.out.chgD hd22 hc22)
            have x22 := Lib.hid (X3.out.chgD hc22)
            clear hd22 hc22 S2 X3 c0 c1 c2
            obtain ⟨c0, c1, c2⟩ := x22.out.facts
            go_wp2_with fail
            refine (Do_fuse _ _ nn _ s22.out.rf Z2.out).mono ?_
            rintro e w23 ⟨rfl, hd23, hc23⟩
            have s23 := Lib.hid (s22.out.chgU hd23 hc23)
            have x23 := Lib.hid (x22.out.chgU hc23)
            clear hd23 hc23 s22 x22 c0 c1 c2
            go_wp2_with fail
            go_meet
            case rel => exact ⟨_, _, _, s23, Lib.hid ⟨hI.out.1, sim_lay hI.out.2 nn⟩, x23⟩
          · as_aux_lemma =>
            obtain ⟨j1, j2, j3, j4, j5, j6⟩ := hc
            have y1 : (a == 1) = false := beq_eq_false_iff_ne.2 j1
            have y2 : (a == 2) = false := beq_eq_false_iff_ne.2 j2
            have y3 : (a == 3) = false := beq_eq_false_iff_ne.2 j3
            have y4 : (a == 4) = false := beq_eq_false_iff_ne.2 j4
            have y5 : (a == 5) = false := beq_eq_false_iff_ne.2 j5
            have y6 : (a == 6) = false := beq_eq_false_iff_ne.2 j6
            clear j1 j2 j3 j4 j5 j6
            go_wp2_with fail
            refine (Write_arg _ _ _ _ _ _ _ _ _ S2.out.dk (Or.inr (Or.inr (by decide)))).mono ?_
            rintro e w' ⟨rfl, rfl⟩
            clear y1 y2 y3 y4 y5 y6
            go_wp2_with fail
            go_meet
            case rel => exact ⟨_, _, _, S2, hI, X3⟩
        case rest =>
          obtain ⟨P2, q2, q2', S4, I4, X4⟩ := hcut
          clear S2 X3 hI c0 c1 c2
          obtain ⟨c0, c1, c2⟩ := X4.out.facts
          obtain ⟨f0, f1, f2⟩ := S4.out.rd.facts
          have d0 := S4.out.rd.now.cell hk
          obtain ⟨e0, -, -, -, -, -⟩ := S4.out.rf.facts
          rw [← I4.out.2.1] at e0
          have HR := Lib.hid (Read_yes _ _ _ _ _ _ k _ S4.out.dk hk)
          unfold readV at HR
          cases hq : q2.on <;> rw [hq] at HR e0
          all_goals
            as_aux_lemma =>
              clear hq
              go_wp2_with fail
              refine HR.out.mono ?_
              rintro e w' ⟨rfl, rfl⟩
              go_wp2_with fail
              go_quiet (fail)
              have s10 := Lib.hid (S4.out.drewN nq)
              have x10 := Lib.hid (X4.out.below (blN (Below.refl _ _) nq))
              clear c0 c1 c2 f0 f1 f2 e0 d0 S4 X4 HR
              generalize wc.drewN nq = w10 at *
              go_wp2_with fail
              refine (Fresh_any _ _ _ _ _ _ _ s10.out.dk).mono ?_
              rintro e w11 ⟨v, rfl, hown, hb11⟩
              have s11 := Lib.hid (s10.out.below hb11)
              clear x10 s10
              obtain ⟨A5, cap5, rfl, hml, hA⟩ := own_open hown
              have hln := freshL_le P2 N
              have HO := Lib.hid hown
              have HA := Lib.hid hA
              have HG := Lib.hid (fun i hi hf => freshL_get P2 N i hi hf)
              clear hown hb11 hml hA
              generalize hL : (freshL P2 N).length = L at *
              have HL := Lib.hid hL
              clear hL
              obtain ⟨f0, f1, f2⟩ := s11.out.rd.facts
              go_wp2_with fail
              go_loop [19, 20] (fun kk jj => ∃ j ρ : Nat, j ≤ N ∧ ρ ≤ j ∧ jj = .int .i64 j ∧ kk = .int .i64 ρ ∧ Hid ((freshL P2 j).length = ρ)) (fun _ jj => N - (intOf jj).toNat)
              case atStart => exact ⟨0, 0, Nat.zero_le _, Nat.zero_le _, rfl, rfl, rfl⟩
              case round =>
                obtain ⟨j, ρ, hj, hρ, rfl, rfl, hR⟩ := hrel
                by_cases hjN : j < N
                · have d2 := s11.out.rd.fresh.cell hjN
                  cases hf : (P2 j).fresh <;> rw [hf] at d2
                  · have HF := Lib.hid (freshL_no P2 j hf)
                    clear hf
                    go_wp2_with fail
                    go_round
                    case rel => exact ⟨j + 1, ρ, by omega, by omega, by go_num, rfl, by rw [HF.out]; exact hR⟩
                    case measure => simp [intOf]; omega
                  · have HF := Lib.hid (freshL_yes P2 j hf)
                    have hg := HG.out j hjN hf
                    rw [hR.out] at hg
                    have hrl : ρ < L := by have := (List.getElem?_eq_some_iff.1 hg).1; have := HL.out; omega
                    obtain ⟨gl, rfl, hg0, hg1⟩ := HA.out (by omega)
                    have hc0 := HO.out.cellAt ρ (by omega)
                    have hc1 : w11.cell? ⟨gl, ρ, Option.none⟩ = some (.int .i64 (j : Int)) := by rw [hc0]; simp [intsV, hg]
                    clear hf hg hc0
                    go_wp2_with fail
                    go_round
                    case rel => exact ⟨j + 1, ρ + 1, by omega, by omega, by go_num, by go_num, by show _ = _; rw [HF.out, List.length_append, hR.out]; rfl⟩
                    case measure => simp [intOf]; omega
                · obtain rfl : N = j := by omega
                  obtain rfl : L = ρ := HL.out.symm.trans hR.out
                  go_wp2_with fail
                  go_quiet ((go_at_call 22; exact Calls.quiet_of_same ((Len_any _ _ _ _ _ _ _ (s11.out.drewN _).dk).mono fun _ _ h => ⟨h.1, h.2.symm⟩)))
                  have s12 := Lib.hid (s11.out.drewN nq)
                  go_wp2_with fail
                  go_roundg (60 - (r + 1))
                  case measure => omega
                  case rel => exact ⟨r + 1, P2, q2, q2', by omega, by omega, rfl, by go_num, s12, I4⟩
      · have HOUT : Hid (p < 0 ∨ (N : Int) ≤ p) := by unfold Hid; omega
        clear hin
        go_upto_region 13 with fail
        clear c0 c1 c2
        obtain ⟨gx, hgx⟩ : ∃ gx, gx = wr.heap.size := ⟨_, rfl⟩
        rw [← hgx] at X2 ⊢
        clear hgx hS
        generalize wr.alloc (.cells #[.int .i64 a, .int .i64 p, .int .i64 nn] 34) = w4 at *
        obtain ⟨c0, c1, c2⟩ := X2.out.facts
        obtain ⟨f0, f1, f2⟩ := S1.out.rd.facts
        go_cut [11] (fun s11 wx => s11 = .bool false ∧ Hid (St w wx g m b N gu gr bn bs bf P P q q') ∧ Hid (Xb wx gx m b gu bn bs bf a p nn))
        case first =>
          by_cases h0 : 0 ≤ p
          · have h1 : decide (p < (N : Int)) = false := by simpa using (show (N : Int) ≤ p by have := HOUT.out; omega)
            go_quiet (fail)
            go_wp2_with fail
            go_meet
            case rel => exact ⟨rfl, S1.out.drewN nq, X2.out.below (blN (Below.refl _ _) nq)⟩
          · have h1 : decide (0 ≤ p) = false := by simpa using h0
            go_quiet (fail)
            go_wp2_with fail
            go_meet
            case rel => exact ⟨rfl, S1.out.drewN nq, X2.out.below (blN (Below.refl _ _) nq)⟩
        case rest =>
          obtain ⟨rfl, S2, X3⟩ := hcut
          clear c0 c1 c2 f0 f1 f2 S1 X2
          obtain ⟨w5, rfl⟩ : ∃ w5 : World, w5 = wc := ⟨_, rfl⟩
          obtain ⟨c0, c1, c2⟩ := X3.out.facts
          go_upto_block 2 with fail
          go_cut [] (fun wx => ∃ (P : Nat → Pg) (q q' : Pw), Hid (St w wx g m b N gu gr bn bs bf P P q q') ∧ Hid (Inv P ∧ Sim q q') ∧ Hid (Xb wx gx m b gu bn bs bf a p nn))
          case first =>
            have hc : a = 1 ∨ a = 2 ∨ a = 3 ∨ a = 4 ∨ a = 5 ∨ a = 6 ∨ (a ≠ 1 ∧ a ≠ 2 ∧ a ≠ 3 ∧ a ≠ 4 ∧ a ≠ 5 ∧ a ≠ 6) := by omega
            rcases hc with rfl | rfl | rfl | rfl | rfl | rfl | hc
            · as_aux_lemma =>
              have HSd := Lib.hid S2.out.drew
              have HXd := Lib.hid (X3.out.below (blN (Below.refl _ _) 1))
              go_wp2_with fail
              go_region_held3 (fun W => W.cell? ⟨gx, 1, Option.none⟩ = some (.int .i64 p) ∧ W.cell? ⟨gx, 2, Option.none⟩ = some (.int .i64 nn)) (first | exact ⟨c1, c2⟩ | exact ⟨y20.2.1, y20.2.2⟩)
                (first | (go_at_call 11; refine (page_any nn _).mono ?_; rintro e w20 ⟨rfl, hb20⟩; have s20 := Lib.hid (HSd.out.below hb20); have x20 := Lib.hid (HXd.out.below hb20); have y20 := x20.out.facts) | (go_at_call 10; refine (Write_arg _ _ _ _ _ _ _ _ _ s20.out.dk (HOUT.out.elim Or.inl (fun h => Or.inr (Or.inl h)))).mono ?_; rintro e w' ⟨rfl, rfl⟩))
              clear c0 c1 c2 HSd HXd y20 hb20 S2 X3
              go_wp2_with fail
              go_meet
              case rel => exact ⟨_, _, _, s20, hI, x20⟩
            · rcases ans_cases q with hq | hq
              · as_aux_lemma =>
                have hq2 := (sim_use hI.out.2).2.symm.trans hq
                have HQ := Lib.hid hq
                have HQ2 := Lib.hid hq2
                clear hq hq2 c0 c1 c2
                go_wp2_with fail
                refine (Do_as _ _ _ _ S2.out.rf 0 HQ2.out).mono ?_
                rintro e w22 ⟨rfl, hr22, hc22⟩
                have s22 := Lib.hid (S2.out.chgU hr22 hc22)
                have x22 := Lib.hid (X3.out.chgU hc22)
                clear hr22 hc22 S2 X3
                go_wp2_with fail
                refine (Sync_ok _ _ _ _ _ _ _ s22.out.dk HQ.out).mono ?_
                rintro e w23 ⟨rfl, hd23, hc23⟩
                have s23 := Lib.hid (s22.out.chgD hd23 hc23)
                have x23 := Lib.hid (x22.out.chgD hc23)
                clear hd23 hc23 s22 x22
                go_wp2_with fail
                refine (refSync_any _ _ _ _ _ _ _ s23.out.rd).mono ?_
                rintro e w24 ⟨rfl, hd24, hc24⟩
                have s24 := Lib.hid (s23.out.chgR hd24 hc24)
                have x24 := Lib.hid (x23.out.chgR hc24)
                clear hd24 hc24 s23 x23
                go_wp2_with fail
                go_meet
                case rel => exact ⟨_, _, _, s24, Lib.hid ⟨Inv.sync _, (sim_use hI.out.2).1⟩, x24⟩
              · as_aux_lemma =>
                have hq2 := (sim_use hI.out.2).2.symm.trans hq
                have HQ := Lib.hid hq
                have HQ2 := Lib.hid hq2
                clear hq hq2 c0 c1 c2
                go_wp2_with fail
                refine (Do_as _ _ _ _ S2.out.rf 4 HQ2.out).mono ?_
                rintro e w22 ⟨rfl, hr22, hc22⟩
                have s22 := Lib.hid (S2.out.chgU hr22 hc22)
                have x22 := Lib.hid (X3.out.chgU hc22)
                clear hr22 hc22 S2 X3
                go_wp2_with fail
                refine (Sync_down _ _ _ _ _ _ _ s22.out.dk HQ.out).mono ?_
                rintro e w23 ⟨rfl, hd23, hc23⟩
                have s23 := Lib.hid (s22.out.chgD hd23 hc23)
                have x23 := Lib.hid (x22.out.chgD hc23)
                clear hd23 hc23 s22 x22
                go_wp2_with fail
                go_meet
                case rel => exact ⟨_, _, _, s23, Lib.hid ⟨hI.out.1, (sim_use hI.out.2).1⟩, x23⟩
            · cases hq : q.on
              · as_aux_lemma =>
                have HQ := Lib.hid hq
                clear hq
                go_wp2_with fail
                refine (Settle_off _ _ _ _ _ _ _ _ S2.out.dk HQ.out).mono ?_
                rintro e w22 ⟨rfl, hd22, hc22⟩
                have hc22 := hc22.mono (T := DS m b) (fun _ _ e => Or.inr e)
                have s22 := Lib.hid (S2.out.chgD hd22 hc22)
                have x22 := Lib.hid (X3.out.chgD hc22)
                clear hd22 hc22 S2 X3 c0 c1 c2
                obtain ⟨c0, c1, c2⟩ := x22.out.facts
                obtain ⟨e0, -, -, -, -, -⟩ := s22.out.rf.facts
                rw [← hI.out.2.1, HQ.out] at e0
                go_wp2_with fail
                refine (refSettle_any _ _ _ _ _ _ _ _ s22.out.rd).mono ?_
                rintro e w23 ⟨rfl, hd23, hc23⟩
                have s23 := Lib.hid (s22.out.chgR (hd23.congr (Q := settled P nn N) (fun i hi => settled_secure hI.out.1 nn N i hi)) hc23)
                have x23 := Lib.hid (x22.out.chgR hc23)
                clear hd23 hc23 s22 x22 e0 c0 c1 c2
                go_wp2_with fail
                go_meet
                case rel => exact ⟨_, _, _, s23, Lib.hid ⟨hI.out.1.settled nn N, hI.out.2⟩, x23⟩
              · as_aux_lemma =>
                have HQ := Lib.hid hq
                obtain ⟨e0, -, -, -, -, -⟩ := S2.out.rf.facts
                rw [← hI.out.2.1, hq] at e0
                clear hq
                go_wp2_with fail
                refine (Settle_on _ _ _ _ _ _ _ _ S2.out.dk HQ.out).mono ?_
                rintro e w' ⟨rfl, rfl⟩
                go_wp2_with fail
                go_roundg (60 - (r + 1))
                case measure => omega
                case rel => exact ⟨r + 1, _, _, _, by omega, by omega, rfl, by go_num, S2, hI⟩
            · as_aux_lemma =>
              go_wp2_with fail
              refine (Off_dk S2.out.dk).mono ?_
              rintro e w22 ⟨rfl, hd22, hc22⟩
              have hc22 := hc22.mono (T := DS m b) (fun _ _ e => Or.inl e)
              have s22 := Lib.hid (S2.out.chgD hd22 hc22)
              have x22 := Lib.hid (X3.out.chgD hc22)
              clear hd22 hc22 S2 X3 c0 c1 c2
              obtain ⟨c0, c1, c2⟩ := x22.out.facts
              go_wp2_with fail
              refine (Do_off _ _ _ s22.out.rf).mono ?_
              rintro e w23 ⟨rfl, hd23, hc23⟩
              have s23 := Lib.hid (s22.out.chgU hd23 hc23)
              have x23 := Lib.hid (x22.out.chgU hc23)
              clear hd23 hc23 s22 x22 c0 c1 c2
              go_wp2_with fail
              go_meet
              case rel => exact ⟨_, _, _, s23, Lib.hid ⟨hI.out.1, sim_off hI.out.2⟩, x23⟩
            · as_aux_lemma =>
              go_wp2_with fail
              refine (On_dk S2.out.dk).mono ?_
              rintro e w22 ⟨rfl, hd22, hc22⟩
              have hc22 := hc22.mono (T := DS m b) (fun _ _ e => Or.inl e)
              have s22 := Lib.hid (S2.out.chgD hd22 hc22)
              have x22 := Lib.hid (X3.out.chgD hc22)
              clear hd22 hc22 S2 X3 c0 c1 c2
              obtain ⟨c0, c1, c2⟩ := x22.out.facts
              go_wp2_with fail
              refine (Do_on _ _ _ s22.out.rf).mono ?_
              rintro e w23 ⟨rfl, hd23, hc23⟩
              have s23 := Lib.hid (s22.out.chgU hd23 hc23)
              have x23 := Lib.hid (x22.out.chgU hc23)
              clear hd23 hc23 s22 x22 c0 c1 c2
              go_wp2_with fail
              go_meet
              case rel => exact ⟨_, _, _, s23, Lib.hid ⟨hI.out.1, sim_come hI.out.2⟩, x23⟩
            · as_aux_lemma =>
              go_wp2_with fail
              refine (Fuse_dk S2.out.dk nn Z2.out.1 Z2.out.2).mono ?_
              rintro e w22 ⟨rfl, hd22, hc22⟩
              have hc22 := hc22.mono (T := DS m b) (fun _ _ e => Or.inl e)
              have s22 := Lib.hid (S2.out.chgD hd22 hc22)
              have x22 := Lib.hid (X3.out.chgD hc22)
              clear hd22 hc22 S2 X3 c0 c1 c2
              obtain ⟨c0, c1, c2⟩ := x22.out.facts
              go_wp2_with fail
              refine (Do_fuse _ _ nn _ s22.out.rf Z2.out).mono ?_
              rintro e w23 ⟨rfl, hd23, hc23⟩
              have s23 := Lib.hid (s22.out.chgU hd23 hc23)
              have x23 := Lib.hid (x22.out.chgU hc23)
              clear hd23 hc23 s22 x22 c0 c1 c2
              go_wp2_with fail
              go_meet
              case rel => exact ⟨_, _, _, s23, Lib.hid ⟨hI.out.1, sim_lay hI.out.2 nn⟩, x23⟩
            · as_aux_lemma =>
              obtain ⟨j1, j2, j3, j4, j5, j6⟩ := hc
              have y1 : (a == 1) = false := beq_eq_false_iff_ne.2 j1
              have y2 : (a == 2) = false := beq_eq_false_iff_ne.2 j2
              have y3 : (a == 3) = false := beq_eq_false_iff_ne.2 j3
              have y4 : (a == 4) = false := beq_eq_false_iff_ne.2 j4
              have y5 : (a == 5) = false := beq_eq_false_iff_ne.2 j5
              have y6 : (a == 6) = false := beq_eq_false_iff_ne.2 j6
              clear j1 j2 j3 j4 j5 j6
              go_wp2_with fail
              refine (Write_arg _ _ _ _ _ _ _ _ _ S2.out.dk (Or.inr (Or.inr (by decide)))).mono ?_
              rintro e w' ⟨rfl, rfl⟩
              clear y1 y2 y3 y4 y5 y6
              go_wp2_with fail
              go_meet
              case rel => exact ⟨_, _, _, S2, hI, X3⟩
          case rest =>
            obtain ⟨P2, q2, q2', S4, I4, X4⟩ := hcut
            clear S2 X3 hI c0 c1 c2
            obtain ⟨c0, c1, c2⟩ := X4.out.facts
            obtain ⟨f0, f1, f2⟩ := S4.out.rd.facts
            obtain ⟨e0, -, -, -, -, -⟩ := S4.out.rf.facts
            have HR := Lib.hid (Read_no _ _ _ _ _ _ p _ S4.out.dk HOUT.out)
            as_aux_lemma =>
              go_wp2_with fail
              refine HR.out.mono ?_
              rintro e w' ⟨rfl, rfl⟩
              go_wp2_with fail
              go_quiet (fail)
              have s10 := Lib.hid (S4.out.drewN nq)
              have x10 := Lib.hid (X4.out.below (blN (Below.refl _ _) nq))
              clear c0 c1 c2 f0 f1 f2 e0 S4 X4 HR
              generalize wc.drewN nq = w10 at *
              go_wp2_with fail
              refine (Fresh_any _ _ _ _ _ _ _ s10.out.dk).mono ?_
              rintro e w11 ⟨v, rfl, hown, hb11⟩
              have s11 := Lib.hid (s10.out.below hb11)
              clear x10 s10
              obtain ⟨A5, cap5, rfl, hml, hA⟩ := own_open hown
              have hln := freshL_le P2 N
              have HO := Lib.hid hown
              have HA := Lib.hid hA
              have HG := Lib.hid (fun i hi hf => freshL_get P2 N i hi hf)
              clear hown hb11 hml hA
              generalize hL : (freshL P2 N).length = L at *
              have HL := Lib.hid hL
              clear hL
              obtain ⟨f0, f1, f2⟩ := s11.out.rd.facts
              go_wp2_with fail
              go_loop [19, 20] (fun kk jj => ∃ j ρ : Nat, j ≤ N ∧ ρ ≤ j ∧ jj = .int .i64 j ∧ kk = .int .i64 ρ ∧ Hid ((freshL P2 j).length = ρ)) (fun _ jj => N - (intOf jj).toNat)
              case atStart => exact ⟨0, 0, Nat.zero_le _, Nat.zero_le _, rfl, rfl, rfl⟩
              case round =>
                obtain ⟨j, ρ, hj, hρ, rfl, rfl, hR⟩ := hrel
                by_cases hjN : j < N
                · have d2 := s11.out.rd.fresh.cell hjN
                  cases hf : (P2 j).fresh <;> rw [hf] at d2
                  · have HF := Lib.hid (freshL_no P2 j hf)
                    clear hf
                    go_wp2_with fail
                    go_round
                    case rel => exact ⟨j + 1, ρ, by omega, by omega, by go_num, rfl, by rw [HF.out]; exact hR⟩
                    case measure => simp [intOf]; omega
                  · have HF := Lib.hid (freshL_yes P2 j hf)
                    have hg := HG.out j hjN hf
                    rw [hR.out] at hg
                    have hrl : ρ < L := by have := (List.getElem?_eq_some_iff.1 hg).1; have := HL.out; omega
                    obtain ⟨gl, rfl, hg0, hg1⟩ := HA.out (by omega)
                    have hc0 := HO.out.cellAt ρ (by omega)
                    have hc1 : w11.cell? ⟨gl, ρ, Option.none⟩ = some (.int .i64 (j : Int)) := by rw [hc0]; simp [intsV, hg]
                    clear hf hg hc0
                    go_wp2_with fail
                    go_round
                    case rel => exact ⟨j + 1, ρ + 1, by omega, by omega, by go_num, by go_num, by show _ = _; rw [HF.out, List.length_append, hR.out]; rfl⟩
                    case measure => simp [intOf]; omega
                · obtain rfl : N = j := by omega
                  obtain rfl : L = ρ := HL.out.symm.trans hR.out
                  go_wp2_with fail
                  go_quiet ((go_at_call 22; exact Calls.quiet_of_same ((Len_any _ _ _ _ _ _ _ (s11.out.drewN _).dk).mono fun _ _ h => ⟨h.1, h.2.symm⟩)))
                  have s12 := Lib.hid (s11.out.drewN nq)
                  go_wp2_with fail
                  go_roundg (60 - (r + 1))
                  case measure => omega
                  case rel => exact ⟨r + 1, P2, q2, q2', by omega, by omega, rfl, by go_num, s12, I4⟩
    · have hB := hS.out.bel
      have HB := Lib.hid hB
      clear hS hI hB
      by_cases i1 : r < m1
      · have i2 : (60 : Int) ≤ (r : Int) := by omega
        clear hlt
        go_wp2_with fail
        go_returns
        exact ⟨rfl, HB.out⟩
      · clear hlt
        go_wp2_with fail
        go_returns
        exact ⟨rfl, HB.out⟩
end Go.Proofs.Ytalaipmhihokjaa.Sl
