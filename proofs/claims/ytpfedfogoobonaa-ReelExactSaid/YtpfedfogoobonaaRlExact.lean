import Derived.Test.YtpfedfogoobonaaRlS
import Derived.Deep.CutBlock
import Derived.Deep.DeepCutAuto
import Derived.Deep.LoopGhost
import Derived.Deep.RegionWith
namespace Go.Proofs.Ytpfedfogoobonaa.Rl
open Go.ChangeShapes Go.WideShapes Go.ChangeAt Go.RowKit Go.PlainAid Aid Mn
set_option linter.unusedVariables false
set_option linter.unusedSimpArgs false

/-- The program's, and the document's, in one world. -/
def Both (g m gu gr size : Nat) (s : ByteArray) (safe : Nat) (q q' : Pw) : Asn := (aRl g m size s safe * aMn m q) * (aRf gu q' * aRr gr s safe size)
def actRow (a n : Int) (x : ByteArray) : Array Value := #[.int .i64 a, .int .i64 n, .string x]
def aAct (gx : Nat) (a n : Int) (x : ByteArray) : Asn := Asn.blk gx 34 (actRow a n x)
theorem act_cells {w : World} {gx : Nat} {a n : Int} {x : ByteArray} (h : Blk w gx 34 (actRow a n x)) :
    w.cell? ⟨gx, 0, none⟩ = some (.int .i64 a) ∧ w.cell? ⟨gx, 1, none⟩ = some (.int .i64 n) ∧ w.cell? ⟨gx, 2, none⟩ = some (.string x) := ⟨h.cell 0, h.cell 1, h.cell 2⟩
section
variable {w0 w : World} {O0 : Nat → Prop} {g m gu gr gx size safe : Nat} {s x : ByteArray} {q q' : Pw} {a n : Int} {X : Asn}
theorem both_fits (h : Own w0 O0 w (X * Both g m gu gr size s safe q q')) : size ≤ 262144 ∧ s.size ≤ size ∧ safe ≤ s.size :=
  h.get (Fact.r (Fact.l (Fact.l (fun w O (h : Rl w g m O size s safe) => ⟨h.small, h.fits, h.safe⟩))))
theorem both_rr (h : Own w0 O0 w (X * Both g m gu gr size s safe q q')) : w.cell? ⟨gr, 0, none⟩ = some (.string s) ∧ w.cell? ⟨gr, 1, none⟩ = some (.int .i64 safe) ∧ w.cell? ⟨gr, 2, none⟩ = some (.int .i64 size) ∧ w.frozen? ⟨gr, 0, none⟩ = false ∧ w.frozen? ⟨gr, 1, none⟩ = false := rr_cells (h.has (Has.r (Has.r (Has.r (has_blk _ _ _)))))
theorem both_rf (h : Own w0 O0 w (X * Both g m gu gr size s safe q q')) : w.cell? ⟨gu, 0, none⟩ = some (.bool q'.on) := (h.has (Has.r (Has.r (Has.l (has_rf _ _))))).cell 0
theorem both_act (h : Own w0 O0 w (aAct gx a n x * Both g m gu gr size s safe q q')) : w.cell? ⟨gx, 0, none⟩ = some (.int .i64 a) ∧ w.cell? ⟨gx, 1, none⟩ = some (.int .i64 n) ∧ w.cell? ⟨gx, 2, none⟩ = some (.string x) := act_cells (h.has (Has.l (has_blk _ _ _)))
end
theorem ans_cases (q : Pw) : q.ans = 0 ∨ q.ans = 4 := by
  unfold Pw.ans; split
  · exact Or.inr rfl
  · split
    · exact Or.inr rfl
    · exact Or.inl rfl
set_option maxRecDepth 100000 in
set_option maxHeartbeats 4000000 in
theorem exact_any (n : Int) (A : Option Addr) (m1 cc : Nat) (z : Nat → Nat → Value) (w : World) (hm : m1 ≤ maxLen) (x1 : CellRows w A m1 [.num, .num, .str] z) :
    Calls Try.prog 3 #[.int .i64 n, .slice A m1 cc] w fun e w' => e = .returned (.bool true) ∧ Below w.heap.size w w' := by
  unfold maxLen at hm
  have X1 := Lib.hid x1
  have HD := Lib.hid (fun m q => tNew m q n)
  have HR := Lib.hid (rNew n)
  generalize nearR n = size at *
  clear x1
  go_enter Try.func3, Try.ntmps3
  go_wp2_with fail
  refine (awake_any _).mono ?_
  rintro e w0 ⟨rfl, hb⟩
  have B0 := Lib.hid (hb)
  clear hb 
  have S0 := Lib.hid (Own.of_below B0.out)
  clear B0
  go_wp2_with fail
  refine (S0.out.callE Mn.tNew).mono ?_
  rintro e w1 ⟨m, rfl, h1⟩
  have S1 := Lib.hid (h1.alloc #[.bool true, .int .i64 (-1), .int .i64 1] 28)
  clear h1 S0
  go_wp2_with fail
  have gu : ∃ gu, gu = w1.heap.size := ⟨_, rfl⟩
  obtain ⟨gu, hgu⟩ := gu
  rw [← hgu] at S1 ⊢
  clear hgu
  generalize w1.alloc (.cells #[.bool true, .int .i64 (-1), .int .i64 1] 28) = w2 at *
  refine (S1.out.callE (HD.out _ _).r).mono ?_
  rintro e w3 ⟨g, rfl, h3⟩
  have S3 := Lib.hid h3
  clear h3 S1
  go_wp2_with fail
  refine (S3.out.addEmp.callE HR.out.r).mono ?_
  rintro e w4 ⟨gr, rfl, h4⟩
  have S4 : Hid (Own w No w4 (Both g m gu gr size ⟨#[]⟩ 0 ⟨true, -1, 1⟩ ⟨true, -1, 1⟩)) := ((h4.imp (Imp.l (Imp.l (imp_rf _)))).imp (Imp.l (fun _ _ => sep_comm))).assoc
  clear h4 S3 HD HR
  go_wp2_with fail
  go_loopg [9] 60 (fun gk i wr => ∃ (r : Nat) (s : ByteArray) (safe : Nat) (q q' : Pw), r ≤ 60 ∧ r ≤ m1 ∧ gk = 60 - r ∧ i = .int .i64 r ∧ Hid (Own w No wr (Both g m gu gr size s safe q q')) ∧ Hid (Sim q q'))
  case atStart => exact ⟨0, _, _, _, _, Nat.zero_le _, Nat.zero_le _, rfl, rfl, S4, Lib.hid ⟨rfl, rfl, Or.inl rfl⟩⟩
  case round =>
    clear S4
    obtain ⟨r, s, safe, q, q', hr60, hrm, hgk, rfl, hS, hI⟩ := hrel
    by_cases hlt : r < m1 ∧ r < 60
    · obtain ⟨i1, i2⟩ := hlt
      obtain ⟨ba, oa, rfl, hba, hca, hza⟩ := X1.out.at r i1 _ hS.out.bel
      have c0 := hca 0 (by decide)
      have c1 := hca 1 (by decide)
      have c2 := hca 2 (by decide)
      obtain ⟨a, e0, za⟩ := hza 0 .num rfl
      obtain ⟨nn, e1, zn⟩ := hza 1 .num rfl
      obtain ⟨x, e2, zx⟩ := hza 2 .str rfl
      rw [e0] at c0
      rw [e1] at c1
      rw [e2] at c2
      simp only [Nat.add_zero, List.length_cons, List.length_nil, Nat.zero_add, Nat.reduceAdd] at c0 c1 c2
      clear hca hza e0 e1 e2
      have X2 := Lib.hid (hS.out.alloc (actRow a nn x) 34)
      have ZN := Lib.hid zn
      unfold maxLen at zx
      clear za zn
      by_cases h100 : x.size ≤ 100
      · go_upto_block 2 with fail
        obtain ⟨gx, hgx⟩ : ∃ gx, gx = wr.heap.size := ⟨_, rfl⟩
        rw [← hgx] at X2 ⊢
        change Hid (Own w No _ (aAct gx a nn x * Both g m gu gr size s safe q q')) at X2
        change Code.wp _ _ _ _ (wr.alloc (.cells (actRow a nn x) 34))
        clear hgx hS c0 c1 c2
        generalize wr.alloc (.cells (actRow a nn x) 34) = w5 at *
        obtain ⟨c0, c1, c2⟩ := both_act X2.out
        obtain ⟨k1, k2, k3⟩ := both_fits X2.out
        go_cut [] (fun wx => ∃ (s : ByteArray) (safe : Nat) (q q' : Pw), Hid (Own w No wx (aAct gx a nn x * Both g m gu gr size s safe q q')) ∧ Hid (Sim q q'))
        case first =>
          have hc : a = 1 ∨ a = 2 ∨ a = 3 ∨ a = 4 ∨ a = 5 ∨ a = 6 ∨ (a ≠ 1 ∧ a ≠ 2 ∧ a ≠ 3 ∧ a ≠ 4 ∧ a ≠ 5 ∧ a ≠ 6) := by omega
          rcases hc with rfl | rfl | rfl | rfl | rfl | rfl | hc
          · by_cases hfit : (x.size : Int) ≤ (size : Int) - s.size
            · rcases ans_cases q with hq | hq
              · as_aux_lemma =>
                have HQ := Lib.hid hq
                have HQ2 := Lib.hid ((sim_use hI.out).2.symm.trans hq)
                clear hq
                go_wp2_with fail
                refine (X2.out.call (tAppend_ok _ _ _ _ _ _ x hfit HQ.out).l.r).mono ?_
                rintro e w6 ⟨rfl, h6⟩
                have S6 : Hid (Own w No w6 (aAct gx 1 nn x * ((aRl g m size (s ++ x) safe * aMn m q.use) * (aRf gu q' * aRr gr s safe size)))) := h6
                clear h6 X2 c0 c1 c2
                obtain ⟨c0, c1, c2⟩ := act_cells (S6.out.has (Has.l (has_blk _ _ _)))
                obtain ⟨f0, f1, f2, -, -⟩ := rr_cells (S6.out.has (Has.r (Has.r (Has.r (has_blk _ _ _)))))
                go_wp2_with fail
                go_quiet (fail)
                have S7 := Lib.hid (S6.out.drewN nq)
                clear S6 c0 c1 c2 f0 f1 f2
                generalize w6.drewN nq = w7 at *
                go_wp2_with fail
                refine (S7.out.call (dUse _ _ 0 0 HQ2.out).l.r.r).mono ?_
                rintro e w8 ⟨rfl, h8⟩
                have S8 := Lib.hid h8
                clear h8 S7
                obtain ⟨c0, c1, c2⟩ := act_cells (S8.out.has (Has.l (has_blk _ _ _)))
                obtain ⟨f0, f1, f2, -, -⟩ := rr_cells (S8.out.has (Has.r (Has.r (Has.r (has_blk _ _ _)))))
                go_wp2_with fail
                have hcat : ¬ (9223372036854775807 < s.size + x.size) := by omega
                go_wp2_with fail
                refine wp_region_still_tail 10 (by kernel_rfl) (by kernel_rfl) ?_
                simp only [List.take_succ_cons, List.take_zero, List.drop_succ_cons, List.drop_zero]
                change wpStill _ _ w8.drew _ _ _
                repeat still_step
                refine wpStill_nil ?_
                change wpList _ _ _ _ _ w8.drew
                have S9 := Lib.hid S8.out.drew
                clear S8 c0 c1 c2 f0 f1 f2
                generalize w8.drew = w9 at *
                obtain ⟨f0, -, -, g0, -⟩ := rr_cells (S9.out.has (Has.r (Has.r (Has.r (has_blk _ _ _)))))
                go_wp2_with fail
                have S10 := Lib.hid (S9.out.set (Sets.r (Sets.r (Sets.r (sets_blk _ _ _ 0 (.string (s ++ x)))))))
                go_meet
                case rel => exact ⟨s ++ x, safe, q.use, q'.use, S10, Lib.hid (sim_use hI.out).1⟩
              · as_aux_lemma =>
                have HQ := Lib.hid hq
                have HQ2 := Lib.hid ((sim_use hI.out).2.symm.trans hq)
                clear hq
                go_wp2_with fail
                refine (X2.out.call (tAppend_down _ _ _ _ _ _ x hfit HQ.out).l.r).mono ?_
                rintro e w6 ⟨rfl, h6⟩
                have S6 : Hid (Own w No w6 (aAct gx 1 nn x * Both g m gu gr size s safe q.use q')) := h6
                clear h6 X2 c0 c1 c2
                obtain ⟨c0, c1, c2⟩ := both_act S6.out
                obtain ⟨f0, f1, f2, -, -⟩ := both_rr S6.out
                go_wp2_with fail
                go_quiet (fail)
                have S7 := Lib.hid (S6.out.drewN nq)
                clear S6 c0 c1 c2 f0 f1 f2
                generalize w6.drewN nq = w7 at *
                go_wp2_with fail
                refine (S7.out.call (dUse _ _ 0 4 HQ2.out).l.r.r).mono ?_
                rintro e w8 ⟨rfl, h8⟩
                have S8 := Lib.hid h8
                clear h8 S7
                go_wp2_with fail
                go_meet
                case rel => exact ⟨s, safe, q.use, q'.use, S8, Lib.hid (sim_use hI.out).1⟩
            · as_aux_lemma =>
              have hfit' : (size : Int) - s.size < x.size := by omega
              have hfd : decide ((x.size : Int) ≤ (size : Int) - s.size) = false := by simpa using hfit'
              go_wp2_with fail
              refine (X2.out.ask (qAppend_full _ _ _ _ _ x hfit').l.l.r).mono ?_
              rintro e w6 ⟨rfl, k, rfl⟩
              have S6 := Lib.hid (X2.out.drewN k)
              clear X2 c0 c1 c2 hfit
              generalize w5.drewN k = w6 at *
              obtain ⟨c0, c1, c2⟩ := both_act S6.out
              obtain ⟨f0, f1, f2, -, -⟩ := both_rr S6.out
              go_wp2_with fail
              go_quiet (fail)
              have S7 := Lib.hid (S6.out.drewN nq)
              clear S6 c0 c1 c2 f0 f1 f2
              generalize w6.drewN nq = w7 at *
              go_wp2_with fail
              go_meet
              case rel => exact ⟨s, safe, q, q', S7, hI⟩
          · rcases ans_cases q with hq | hq
            · as_aux_lemma =>
              have HQ := Lib.hid hq
              have HQ2 := Lib.hid ((sim_use hI.out).2.symm.trans hq)
              clear hq c0 c1 c2
              go_wp2_with fail
              refine (X2.out.call (dUse _ _ 0 0 HQ2.out).l.r.r).mono ?_
              rintro e w6 ⟨rfl, h6⟩
              have S6 := Lib.hid h6
              clear h6 X2
              go_wp2_with fail
              refine (S6.out.call (tSync_ok _ _ _ _ _ _ HQ.out).l.r).mono ?_
              rintro e w7 ⟨rfl, h7⟩
              have S7 := Lib.hid h7
              clear h7 S6
              obtain ⟨f0, f1, f2, g0, g1⟩ := rr_cells (S7.out.has (Has.r (Has.r (Has.r (has_blk _ _ _)))))
              go_wp2_with fail
              have S10 := Lib.hid (S7.out.set (Sets.r (Sets.r (Sets.r (sets_blk _ _ _ 1 (.int .i64 s.size))))))
              go_meet
              case rel => exact ⟨s, s.size, q.use, q'.use, S10, Lib.hid (sim_use hI.out).1⟩
            · as_aux_lemma =>
              have HQ := Lib.hid hq
              have HQ2 := Lib.hid ((sim_use hI.out).2.symm.trans hq)
              clear hq c0 c1 c2
              go_wp2_with fail
              refine (X2.out.call (dUse _ _ 0 4 HQ2.out).l.r.r).mono ?_
              rintro e w6 ⟨rfl, h6⟩
              have S6 := Lib.hid h6
              clear h6 X2
              go_wp2_with fail
              refine (S6.out.call (tSync_down _ _ _ _ _ _ HQ.out).l.r).mono ?_
              rintro e w7 ⟨rfl, h7⟩
              have S7 := Lib.hid h7
              clear h7 S6
              go_wp2_with fail
              go_meet
              case rel => exact ⟨s, safe, q.use, q'.use, S7, Lib.hid (sim_use hI.out).1⟩
          · by_cases h0 : nn < 0
            · as_aux_lemma =>
              have hn : trimW s nn := Or.inl h0
              have hkd : decide (0 ≤ nn) = false := by simpa using h0
              have HT := Lib.hid hn
              go_wp2_with fail
              refine (X2.out.ask (qTrim_arg _ _ _ _ _ nn HT.out).l.l.r).mono ?_
              rintro e w6 ⟨rfl, k, rfl⟩
              have S6 := Lib.hid (X2.out.drewN k)
              clear X2 c0 c1 c2
              generalize w5.drewN k = w6 at *
              obtain ⟨c0, c1, c2⟩ := both_act S6.out
              obtain ⟨f0, f1, f2, -, -⟩ := both_rr S6.out
              go_wp2_with fail
              go_quiet (fail)
              have S7 := Lib.hid (S6.out.drewN nq)
              clear S6 c0 c1 c2 f0 f1 f2
              generalize w6.drewN nq = w7 at *
              go_wp2_with fail
              go_meet
              case rel => exact ⟨s, safe, q, q', S7, hI⟩
            · by_cases h1 : (s.size : Int) < nn
              · as_aux_lemma =>
                have hn : trimW s nn := Or.inr h1
                have hkd : decide (0 ≤ nn) = true := by simp; omega
                have hkd2 : decide (nn ≤ (s.size : Int)) = false := by simpa using h1
                have HT := Lib.hid hn
                go_wp2_with fail
                refine (X2.out.ask (qTrim_arg _ _ _ _ _ nn HT.out).l.l.r).mono ?_
                rintro e w6 ⟨rfl, k, rfl⟩
                have S6 := Lib.hid (X2.out.drewN k)
                clear X2 c0 c1 c2
                generalize w5.drewN k = w6 at *
                obtain ⟨c0, c1, c2⟩ := both_act S6.out
                obtain ⟨f0, f1, f2, -, -⟩ := both_rr S6.out
                go_wp2_with fail
                go_quiet (fail)
                have S7 := Lib.hid (S6.out.drewN nq)
                clear S6 c0 c1 c2 f0 f1 f2
                generalize w6.drewN nq = w7 at *
                go_wp2_with fail
                go_meet
                case rel => exact ⟨s, safe, q, q', S7, hI⟩
              · obtain ⟨k, rfl⟩ : ∃ k : Nat, nn = k := ⟨nn.toNat, by omega⟩
                have hk : k ≤ s.size := by omega
                clear h0 h1
                rcases ans_cases q with hq | hq
                · as_aux_lemma =>
                  have HQ := Lib.hid hq
                  have HQ2 := Lib.hid ((sim_use hI.out).2.symm.trans hq)
                  clear hq
                  go_wp2_with fail
                  refine (X2.out.call (tTrim_ok _ _ _ _ _ _ k hk HQ.out).l.r).mono ?_
                  rintro e w6 ⟨rfl, h6⟩
                  have S6 := Lib.hid h6
                  clear h6 X2 c0 c1 c2
                  obtain ⟨c0, c1, c2⟩ := act_cells (S6.out.has (Has.l (has_blk _ _ _)))
                  obtain ⟨f0, f1, f2, -, -⟩ := rr_cells (S6.out.has (Has.r (Has.r (Has.r (has_blk _ _ _)))))
                  have hkd : decide ((k : Int) ≤ (s.size : Int)) = true := by simpa using hk
                  have hk0 : decide ((0 : Int) ≤ (k : Int)) = true := by simp
                  go_wp2_with fail
                  go_quiet (fail)
                  have S7 := Lib.hid (S6.out.drewN nq)
                  clear S6 c0 c1 c2 f0 f1 f2
                  generalize w6.drewN nq = w7 at *
                  go_wp2_with fail
                  refine (S7.out.call (dUse _ _ 0 0 HQ2.out).l.r.r).mono ?_
                  rintro e w8 ⟨rfl, h8⟩
                  have S8 := Lib.hid h8
                  clear h8 S7
                  obtain ⟨c0, c1, c2⟩ := act_cells (S8.out.has (Has.l (has_blk _ _ _)))
                  obtain ⟨f0, f1, f2, -, -⟩ := rr_cells (S8.out.has (Has.r (Has.r (Has.r (has_blk _ _ _)))))
                  have hsl := slice_to (P := Try.prog) Try.underlying9 s k (k : Int) rfl hk
                  go_wp2_with fail
                  go_wp2_with fail
                  refine wp_region_still_tail 10 (by kernel_rfl) (by kernel_rfl) ?_
                  simp only [List.take_succ_cons, List.take_zero, List.drop_succ_cons, List.drop_zero]
                  change wpStill _ _ w8.drew _ _ _
                  repeat still_step
                  refine wpStill_nil ?_
                  change wpList _ _ _ _ _ w8.drew
                  have S9 := Lib.hid S8.out.drew
                  clear S8 c0 c1 c2 f0 f1 f2
                  generalize w8.drew = w9 at *
                  obtain ⟨c0, c1, c2⟩ := act_cells (S9.out.has (Has.l (has_blk _ _ _)))
                  obtain ⟨f0, f1, -, g0, g1⟩ := rr_cells (S9.out.has (Has.r (Has.r (Has.r (has_blk _ _ _)))))
                  have hgx := S9.out.ne (mem_blk _ _ _) (Mem.r (Mem.r (mem_blk _ _ _)))
                  go_wp2_with fail
                  have S10 := Lib.hid ((S9.out.set (Sets.r (Sets.r (Sets.r (sets_blk _ _ _ 0 (.string (s.extract 0 k))))))).set (Sets.r (Sets.r (Sets.r (sets_blk _ _ _ 1 (.int .i64 (k : Int)))))))
                  go_meet
                  case rel => exact ⟨s.extract 0 k, k, q.use, q'.use, S10, Lib.hid (sim_use hI.out).1⟩
                · as_aux_lemma =>
                  have HQ := Lib.hid hq
                  have HQ2 := Lib.hid ((sim_use hI.out).2.symm.trans hq)
                  clear hq
                  go_wp2_with fail
                  refine (X2.out.call (tTrim_down _ _ _ _ _ _ k hk HQ.out).l.r).mono ?_
                  rintro e w6 ⟨rfl, h6⟩
                  have S6 := Lib.hid h6
                  clear h6 X2 c0 c1 c2
                  obtain ⟨c0, c1, c2⟩ := act_cells (S6.out.has (Has.l (has_blk _ _ _)))
                  obtain ⟨f0, f1, f2, -, -⟩ := rr_cells (S6.out.has (Has.r (Has.r (Has.r (has_blk _ _ _)))))
                  have hkd : decide ((k : Int) ≤ (s.size : Int)) = true := by simpa using hk
                  have hk0 : decide ((0 : Int) ≤ (k : Int)) = true := by simp
                  go_wp2_with fail
                  go_quiet (fail)
                  have S7 := Lib.hid (S6.out.drewN nq)
                  clear S6 c0 c1 c2 f0 f1 f2
                  generalize w6.drewN nq = w7 at *
                  go_wp2_with fail
                  refine (S7.out.call (dUse _ _ 0 4 HQ2.out).l.r.r).mono ?_
                  rintro e w8 ⟨rfl, h8⟩
                  have S8 := Lib.hid h8
                  clear h8 S7
                  go_wp2_with fail
                  go_meet
                  case rel => exact ⟨s, safe, q.use, q'.use, S8, Lib.hid (sim_use hI.out).1⟩
          · cases hq : q.on
            · as_aux_lemma =>
              have HQ := Lib.hid hq
              have HQ2 : Hid (q'.on = false) := hI.out.1.symm.trans hq
              have HS2 := Lib.hid (rSettle gr s safe size nn k3 (by omega))
              clear hq
              go_wp2_with fail
              refine (X2.out.call (tSettle_off _ _ _ _ _ _ nn HQ.out).l.r).mono ?_
              rintro e w6 ⟨rfl, h6⟩
              have S6 := Lib.hid h6
              clear h6 X2 c0 c1 c2
              obtain ⟨c0, c1, c2⟩ := act_cells (S6.out.has (Has.l (has_blk _ _ _)))
              have e0 := (S6.out.has (Has.r (Has.r (Has.l (has_rf _ _))))).cell 0
              change w6.cell? ⟨gu, 0, none⟩ = some (.bool q'.on) at e0
              rw [HQ2.out] at e0
              go_wp2_with fail
              refine (S6.out.call HS2.out.r.r.r).mono ?_
              rintro e w7 ⟨rfl, h7⟩
              have S7 := Lib.hid h7
              clear h7 S6 c0 c1 c2 e0
              go_wp2_with fail
              go_meet
              case rel => exact ⟨_, _, q, q', S7, hI⟩
            · as_aux_lemma =>
              have HQ := Lib.hid hq
              have HQ2 : Hid (q'.on = true) := hI.out.1.symm.trans hq
              clear hq
              go_wp2_with fail
              refine (X2.out.ask (qSettle_on _ _ _ _ _ _ nn HQ.out).l.r).mono ?_
              rintro e w6 ⟨rfl, k, rfl⟩
              have S6 := Lib.hid (X2.out.drewN k)
              clear X2 c0 c1 c2
              generalize w5.drewN k = w6 at *
              have e0 := both_rf S6.out
              rw [HQ2.out] at e0
              go_wp2_with fail
              go_roundg (60 - (r + 1))
              case measure => omega
              case rel => exact ⟨r + 1, s, safe, q, q', by omega, by omega, rfl, by go_num, S6.out.right, hI⟩
          · as_aux_lemma =>
            go_wp2_with fail
            refine (X2.out.call (tOff _ _).r.l.r).mono ?_
            rintro e w6 ⟨rfl, h6⟩
            have S6 := Lib.hid h6
            clear h6 X2 c0 c1 c2
            obtain ⟨c0, c1, c2⟩ := act_cells (S6.out.has (Has.l (has_blk _ _ _)))
            go_wp2_with fail
            refine (S6.out.call (dOff _ _).l.r.r).mono ?_
            rintro e w7 ⟨rfl, h7⟩
            have S7 := Lib.hid h7
            clear h7 S6 c0 c1 c2
            go_wp2_with fail
            go_meet
            case rel => exact ⟨s, safe, _, _, S7, Lib.hid (sim_off hI.out)⟩
          · as_aux_lemma =>
            go_wp2_with fail
            refine (X2.out.call (tOn _ _).r.l.r).mono ?_
            rintro e w6 ⟨rfl, h6⟩
            have S6 := Lib.hid h6
            clear h6 X2 c0 c1 c2
            obtain ⟨c0, c1, c2⟩ := act_cells (S6.out.has (Has.l (has_blk _ _ _)))
            go_wp2_with fail
            refine (S6.out.call (dOn _ _).l.r.r).mono ?_
            rintro e w7 ⟨rfl, h7⟩
            have S7 := Lib.hid h7
            clear h7 S6 c0 c1 c2
            go_wp2_with fail
            go_meet
            case rel => exact ⟨s, safe, _, _, S7, Lib.hid (sim_come hI.out)⟩
          · obtain ⟨j1, j2, j3, j4, j5, j6⟩ := hc
            have y1 : (a == 1) = false := beq_eq_false_iff_ne.2 j1
            have y2 : (a == 2) = false := beq_eq_false_iff_ne.2 j2
            have y3 : (a == 3) = false := beq_eq_false_iff_ne.2 j3
            have y4 : (a == 4) = false := beq_eq_false_iff_ne.2 j4
            have y5 : (a == 5) = false := beq_eq_false_iff_ne.2 j5
            have y6 : (a == 6) = false := beq_eq_false_iff_ne.2 j6
            clear j1 j2 j3 j4 j5 j6
            as_aux_lemma =>
              go_wp2_with fail
              refine (X2.out.call (tFuse _ _ nn ZN.out).r.l.r).mono ?_
              rintro e w6 ⟨rfl, h6⟩
              have S6 := Lib.hid h6
              clear h6 X2 c0 c1 c2
              obtain ⟨c0, c1, c2⟩ := act_cells (S6.out.has (Has.l (has_blk _ _ _)))
              go_wp2_with fail
              refine (S6.out.call (dFuse _ _ nn ZN.out).l.r.r).mono ?_
              rintro e w7 ⟨rfl, h7⟩
              have S7 := Lib.hid h7
              clear h7 S6 c0 c1 c2
              go_wp2_with fail
              go_meet
              case rel => exact ⟨s, safe, _, _, S7, Lib.hid (sim_lay hI.out nn)⟩
        case rest =>
          obtain ⟨s, safe, q, q', S4, I4⟩ := hcut
          clear X2 hI c0 c1 c2 k1 k2 k3
          obtain ⟨k1, k2, k3⟩ := both_fits S4.out
          obtain ⟨f0, f1, f2, -, -⟩ := both_rr S4.out
          have e0 := both_rf S4.out
          cases hq : q.on
          · as_aux_lemma =>
            have HQ := Lib.hid hq
            rw [← I4.out.1, hq] at e0
            clear hq
            go_wp2_with fail
            refine (S4.out.ask (qRead_off _ _ _ _ _ _ HQ.out).l.r).mono ?_
            rintro e w6 ⟨rfl, k, rfl⟩
            have S6 := Lib.hid (S4.out.drewN k)
            have f0' := both_rr S6.out
            obtain ⟨f0', f1', f2', -, -⟩ := f0'
            have e0' : (wc.drewN k).cell? ⟨gu, 0, none⟩ = some (.bool false) := e0
            clear S4 f0 f1 f2 e0
            generalize wc.drewN k = w6 at *
            go_wp2_with fail
            go_quiet (first | (go_at_call 20; exact Calls.quiet_of ((S6.out.drewN _).ask (qLen _ _ _ _ _).l.l.r)) | (go_at_call 21; exact Calls.quiet_of ((S6.out.drewN _).ask (qSafe _ _ _ _ _).l.l.r)) | (go_at_call 22; exact Calls.quiet_of ((S6.out.drewN _).ask (qLeft _ _ _ _ _).l.l.r)))
            have S7 := Lib.hid (S6.out.drewN nq).right
            clear f0' f1' f2' e0' S6
            go_wp2_with fail
            go_roundg (60 - (r + 1))
            case measure => omega
            case rel => exact ⟨r + 1, s, safe, q, q', by omega, by omega, rfl, by go_num, S7, I4⟩
          · as_aux_lemma =>
            have HQ := Lib.hid hq
            rw [← I4.out.1, hq] at e0
            clear hq
            go_wp2_with fail
            refine (S4.out.ask (qRead_on _ _ _ _ _ _ HQ.out).l.r).mono ?_
            rintro e w6 ⟨rfl, k, rfl⟩
            have S6 := Lib.hid (S4.out.drewN k)
            have f0' := both_rr S6.out
            obtain ⟨f0', f1', f2', -, -⟩ := f0'
            have e0' : (wc.drewN k).cell? ⟨gu, 0, none⟩ = some (.bool true) := e0
            clear S4 f0 f1 f2 e0
            generalize wc.drewN k = w6 at *
            go_wp2_with fail
            go_quiet (first | (go_at_call 20; exact Calls.quiet_of ((S6.out.drewN _).ask (qLen _ _ _ _ _).l.l.r)) | (go_at_call 21; exact Calls.quiet_of ((S6.out.drewN _).ask (qSafe _ _ _ _ _).l.l.r)) | (go_at_call 22; exact Calls.quiet_of ((S6.out.drewN _).ask (qLeft _ _ _ _ _).l.l.r)))
            have S7 := Lib.hid (S6.out.drewN nq).right
            clear f0' f1' f2' e0' S6
            go_wp2_with fail
            go_roundg (60 - (r + 1))
            case measure => omega
            case rel => exact ⟨r + 1, s, safe, q, q', by omega, by omega, rfl, by go_num, S7, I4⟩
      · have HB := Lib.hid hS.out.bel
        clear hS hI X2
        go_wp2_with fail
        go_returns
        exact ⟨rfl, blA HB.out _⟩
    · have HB := Lib.hid hS.out.bel
      clear hS hI
      by_cases i1 : r < m1
      · have i2 : (60 : Int) ≤ (r : Int) := by omega
        clear hlt
        go_wp2_with fail
        go_returns
        exact ⟨rfl, HB.out⟩
      · clear hlt
        go_wp2_with fail
        go_returns
        exact ⟨rfl, HB.out⟩
end Go.Proofs.Ytpfedfogoobonaa.Rl
