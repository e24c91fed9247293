import Derived.Test.YtalaipmhihokjaaSlE
import Derived.Test.YtalaipmhihokjaaMnC
namespace Go.Proofs.Ytalaipmhihokjaa.Sl
open Go.ChangeShapes Go.WideShapes Go.ChangeAt Go.RowKit Go.PlainAid Aid Mn
set_option linter.unusedVariables false
set_option linter.unusedSimpArgs false

/-! The document's own disk. -/
structure Rd (w : World) (g bn bs bf n : Nat) (P : Nat → Pg) : Prop where
  disk : Blk w g 38 #[.slice (some ⟨bn, 0, Option.none⟩) n n, .slice (some ⟨bs, 0, Option.none⟩) n n, .slice (some ⟨bf, 0, Option.none⟩) n n]
  now : Tab w bn 9 n (fun i => .string (P i).now)
  safe : Tab w bs 9 n (fun i => .string (P i).safe)
  fresh : Tab w bf 4 n (fun i => .bool (P i).fresh)
  small : n ≤ 256
  gn : g ≠ bn
  gs : g ≠ bs
  gf : g ≠ bf
  ns : bn ≠ bs
  nf : bn ≠ bf
  sf : bs ≠ bf
def RS (bn bs bf : Nat) : Nat → Prop := fun k => k = bn ∨ k = bs ∨ k = bf
section
variable {w w' : World} {g bn bs bf n : Nat} {P Q : Nat → Pg}
theorem Rd.keep {S : Nat → Prop} (h : Rd w g bn bs bf n P) (hb : Chg S w w') (h0 : ¬ S g) (h1 : ¬ S bn) (h2 : ¬ S bs) (h3 : ¬ S bf) : Rd w' g bn bs bf n P :=
  ⟨h.disk.keep hb h0, h.now.keep hb h1, h.safe.keep hb h2, h.fresh.keep hb h3, h.small, h.gn, h.gs, h.gf, h.ns, h.nf, h.sf⟩
theorem Rd.below (h : Rd w g bn bs bf n P) (hb : Below w.heap.size w w') : Rd w' g bn bs bf n P := h.keep (S := fun _ => False) (Chg.of_below hb) id id id id
theorem Rd.drew (h : Rd w g bn bs bf n P) : Rd w.drew g bn bs bf n P := ⟨h.disk, h.now, h.safe, h.fresh, h.small, h.gn, h.gs, h.gf, h.ns, h.nf, h.sf⟩
theorem Dk.drew {m b : Nat} {q : Pw} (h : Dk w g m b n P q) : Dk w.drew g m b n P q := ⟨h.disk, h.pages, h.power, h.small, h.gm, h.gb, h.mb⟩
theorem Rd.congr (h : Rd w g bn bs bf n P) (e : ∀ i, i < n → P i = Q i) : Rd w g bn bs bf n Q :=
  ⟨h.disk, h.now.congr (fun i hi => by rw [e i hi]), h.safe.congr (fun i hi => by rw [e i hi]), h.fresh.congr (fun i hi => by rw [e i hi]), h.small, h.gn, h.gs, h.gf, h.ns, h.nf, h.sf⟩
theorem Rd.facts (h : Rd w g bn bs bf n P) : w.cell? ⟨g, 0, Option.none⟩ = some (.slice (some ⟨bn, 0, Option.none⟩) n n) ∧ w.cell? ⟨g, 1, Option.none⟩ = some (.slice (some ⟨bs, 0, Option.none⟩) n n) ∧ w.cell? ⟨g, 2, Option.none⟩ = some (.slice (some ⟨bf, 0, Option.none⟩) n n) := ⟨h.disk.cell 0, h.disk.cell 1, h.disk.cell 2⟩
/-- A cell of one of the three rows is written. -/
theorem Rd.setNow (h : Rd w g bn bs bf n P) (i : Nat) (s : ByteArray) : Rd (w.setCell ⟨bn, i, Option.none⟩ (.string s)) g bn bs bf n (upd P i ⟨s, (P i).safe, (P i).fresh⟩) := by
  refine ⟨h.disk.other h.gn _, h.now.set' _ _ (fun k _ => ?_), (h.safe.other (fun e => h.ns e.symm) _).congr (fun k _ => ?_), (h.fresh.other (fun e => h.nf e.symm) _).congr (fun k _ => ?_), h.small, h.gn, h.gs, h.gf, h.ns, h.nf, h.sf⟩
  all_goals (by_cases hk : k = i <;> simp [upd, hk])
theorem Rd.setSafe (h : Rd w g bn bs bf n P) (i : Nat) (s : ByteArray) : Rd (w.setCell ⟨bs, i, Option.none⟩ (.string s)) g bn bs bf n (upd P i ⟨(P i).now, s, (P i).fresh⟩) := by
  refine ⟨h.disk.other h.gs _, (h.now.other h.ns _).congr (fun k _ => ?_), h.safe.set' _ _ (fun k _ => ?_), (h.fresh.other (fun e => h.sf e.symm) _).congr (fun k _ => ?_), h.small, h.gn, h.gs, h.gf, h.ns, h.nf, h.sf⟩
  all_goals (by_cases hk : k = i <;> simp [upd, hk])
theorem Rd.setFresh (h : Rd w g bn bs bf n P) (i : Nat) (x : Bool) : Rd (w.setCell ⟨bf, i, Option.none⟩ (.bool x)) g bn bs bf n (upd P i ⟨(P i).now, (P i).safe, x⟩) := by
  refine ⟨h.disk.other h.gf _, (h.now.other h.nf _).congr (fun k _ => ?_), (h.safe.other h.sf _).congr (fun k _ => ?_), h.fresh.set' _ _ (fun k _ => ?_), h.small, h.gn, h.gs, h.gf, h.ns, h.nf, h.sf⟩
  all_goals (by_cases hk : k = i <;> simp [upd, hk])
end
theorem upd_upd {α : Type} (P : Nat → α) (i : Nat) (x y : α) : upd (upd P i x) i y = upd P i y := by
  funext k; by_cases hk : k = i <;> simp [upd, hk]

set_option maxHeartbeats 1000000 in
theorem refSync_any (g bn bs bf n : Nat) (P : Nat → Pg) (w : World) (h : Rd w g bn bs bf n P) :
    Calls Try.prog 14 #[.pointer (some ⟨g, 0, Option.none⟩)] w fun e w' => e = .returned (.tuple #[]) ∧ Rd w' g bn bs bf n (fun i => (P i).secure) ∧ Chg (RS bn bs bf) w w' := by
  have hsm := h.small
  go_enter Try.func14, Try.ntmps14
  go_wp2_with fail
  go_loopw [2] (fun i wr => ∃ k : Nat, k ≤ n ∧ i = .int .i64 k ∧ Hid (Rd wr g bn bs bf n (secured P k)) ∧ Hid (Chg (RS bn bs bf) w wr)) (fun i _ => n - (intOf i).toNat)
  case atStart => exact ⟨0, Nat.zero_le _, rfl, h.congr (fun i _ => by simp [secured]), Chg.refl _ _⟩
  case round =>
    clear h
    obtain ⟨k, hk, rfl, hD, hB⟩ := hrel
    by_cases hlt : k < n
    · obtain ⟨c0, c1, c2⟩ := hD.out.facts
      have d0 := hD.out.now.cell hlt
      have d1 := hD.out.safe.cell hlt
      have f1 := hD.out.safe.free k
      go_wp2_with fail
      refine wp_region_still_tail 13 (by kernel_rfl) (by kernel_rfl) ?_
      simp only [List.take_succ_cons, List.take_zero, List.drop_succ_cons, List.drop_zero]
      change wpStill _ _ wr.drew _ _ _
      repeat still_step
      refine wpStill_nil ?_
      change wpList _ _ _ _ _ wr.drew
      have D1 : Hid (Rd wr.drew g bn bs bf n (secured P k)) := hD.out.drew
      have B1 : Hid (Chg (RS bn bs bf) w wr.drew) := hB.out.drew
      have c3 : wr.drew.cell? ⟨g, 2, Option.none⟩ = some (.slice (some ⟨bf, 0, Option.none⟩) n n) := c2
      have d2 : wr.drew.cell? ⟨bs, k, Option.none⟩ = some (.string (secured P k k).safe) := d1
      have f2 : wr.drew.frozen? ⟨bs, k, Option.none⟩ = false := f1
      have g1 : wr.drew.frozen? ⟨bf, k, Option.none⟩ = false := hD.out.fresh.free k
      have g2 : wr.drew.cell? ⟨bf, k, Option.none⟩ = some (.bool (secured P k k).fresh) := hD.out.fresh.cell hlt
      have hne1 := hD.out.gs
      have hne2 := hD.out.sf
      clear hD hB c0 c1 c2 d0 d1 f1
      generalize wr.drew = w2 at *
      go_wp2_with fail
      have hs1 := (D1.out.setSafe k (secured P k k).now).setFresh k false
      have hs2 := hs1.congr (Q := secured P (k + 1)) (fun i _ => by
        by_cases hi : i = k
        · subst hi; simp [upd, secured, Pg.secure]
        · simp only [upd, if_neg hi, secured]; by_cases h1 : i < k <;> simp [h1, show (i < k + 1) ↔ (i < k) by omega])
      have hc2 : Chg (RS bn bs bf) w ((w2.setCell ⟨bs, k, Option.none⟩ (.string (secured P k k).now)).setCell ⟨bf, k, Option.none⟩ (.bool false)) := (B1.out.setCell (fun _ => Or.inr (Or.inl rfl)) _).setCell (fun _ => Or.inr (Or.inr rfl)) _
      go_roundw
      case rel => exact ⟨k + 1, by omega, by go_num, hs2, hc2⟩
      case measure => simp [intOf]; omega
    · obtain rfl : n = k := by omega
      obtain ⟨c0, c1, c2⟩ := hD.out.facts
      go_wp2_with fail
      go_returns
      exact ⟨rfl, hD.out.congr (fun i hi => by simp [secured, hi]), hB.out⟩

/-- What a page holds behind Settle's first step; its rank tells its bit. -/
def settleNow (P : Nat → Pg) (keep : Int) (i : Nat) : Pg := if (P i).fresh = true ∧ bitK keep (freshL P i).length = false then ⟨(P i).safe, (P i).safe, (P i).fresh⟩ else P i
theorem settleNow_no (P : Nat → Pg) (keep : Int) (i : Nat) (h : (P i).fresh = false) : settleNow P keep i = P i := if_neg (fun x => by rw [h] at x; cases x.1)
theorem settleNow_yes (P : Nat → Pg) (keep : Int) (i : Nat) (h : (P i).fresh = true) : settleNow P keep i = if bitK keep (freshL P i).length = false then ⟨(P i).safe, (P i).safe, true⟩ else P i := by
  unfold settleNow
  rw [h]
  by_cases hb : bitK keep (freshL P i).length = false
  · rw [if_pos ⟨rfl, hb⟩, if_pos hb]
  · rw [if_neg (fun x => hb x.2), if_neg hb]
theorem settleNow_step (P : Nat → Pg) (keep : Int) (k x : Nat) (h : settleNow P keep k = P k) : (if x < k then settleNow P keep x else P x) = (if x < k + 1 then settleNow P keep x else P x) := by
  by_cases hx : x = k
  · subst hx; rw [if_neg (by omega), if_pos (by omega), h]
  · by_cases h1 : x < k
    · rw [if_pos h1, if_pos (by omega)]
    · rw [if_neg h1, if_neg (by omega)]
theorem rank_lt (P : Nat → Pg) (i n : Nat) (hi : i < n) (hf : (P i).fresh = true) : (freshL P i).length < n := Nat.lt_of_le_of_lt (freshL_le P i) hi
set_option maxHeartbeats 2000000 in
theorem refSettle_any (g bn bs bf n : Nat) (P : Nat → Pg) (keep : Int) (w : World) (h : Rd w g bn bs bf n P) :
    Calls Try.prog 16 #[.pointer (some ⟨g, 0, Option.none⟩), .int .i64 keep] w fun e w' => e = .returned (.tuple #[]) ∧ Rd w' g bn bs bf n (fun i => (settled P keep n i).secure) ∧ Chg (RS bn bs bf) w w' := by
  have hsm := h.small
  have HL := Lib.hid (freshL_le P)
  go_enter Try.func16, Try.ntmps16
  go_wp2_with fail
  go_loopw [4, 5] (fun r i wr => ∃ k j : Nat, k ≤ n ∧ j ≤ k ∧ Hid (j = (freshL P k).length) ∧ r = .int .i64 j ∧ i = .int .i64 k ∧ Hid (Rd wr g bn bs bf n (fun x => if x < k then settleNow P keep x else P x)) ∧ Hid (Chg (RS bn bs bf) w wr)) (fun _ i _ => n - (intOf i).toNat)
  case atStart => exact ⟨0, 0, Nat.zero_le _, Nat.zero_le _, rfl, rfl, rfl, h.congr (fun i _ => by simp), Chg.refl _ _⟩
  case round =>
    clear h
    obtain ⟨k, j, hk, hj, HJ, rfl, rfl, hD, hB⟩ := hrel
    by_cases hlt : k < n
    · obtain ⟨c0, c1, c2⟩ := hD.out.facts
      have d0 := hD.out.now.cell hlt
      have d1 := hD.out.safe.cell hlt
      have d2 := hD.out.fresh.cell hlt
      rw [if_neg (by omega)] at d0 d1 d2
      have f1 := hD.out.now.free k
      cases hf : (P k).fresh <;> rw [hf] at d2
      · have HF := Lib.hid (freshL_no P k hf)
        have HSN := Lib.hid (settleNow_no P keep k hf)
        clear hf
        go_wp2_with fail
        go_roundw
        case rel => exact ⟨k + 1, j, by omega, by omega, by rw [HF.out]; exact HJ, rfl, by go_num, hD.out.congr (fun x _ => settleNow_step _ _ _ _ HSN.out), hB⟩
        case measure => simp [intOf]; omega
      · have HF := Lib.hid (freshL_yes P k hf)
        have hb := and_bitKu keep j
        have HSN := Lib.hid (settleNow_yes P keep k hf)
        have HFR := Lib.hid hf
        rw [← HJ.out] at HSN
        cases hbk : bitK keep j <;> rw [hbk] at hb HSN
        · simp only [Bool.not_false] at hb
          clear hbk hf
          go_wp2_with fail
          refine wp_region_still_tail 13 (by kernel_rfl) (by kernel_rfl) ?_
          simp only [List.take_succ_cons, List.take_zero, List.drop_succ_cons, List.drop_zero]
          change wpStill _ _ wr.drew _ _ _
          repeat still_step
          refine wpStill_nil ?_
          change wpList _ _ _ _ _ wr.drew
          have D1 : Hid (Rd wr.drew g bn bs bf n (fun x => if x < k then settleNow P keep x else P x)) := hD.out.drew
          have B1 : Hid (Chg (RS bn bs bf) w wr.drew) := hB.out.drew
          have d3 : wr.drew.cell? ⟨bn, k, Option.none⟩ = some (.string (P k).now) := d0
          have f3 : wr.drew.frozen? ⟨bn, k, Option.none⟩ = false := f1
          clear hD hB c0 c1 c2 d0 d1 d2 f1 hb
          generalize wr.drew = w2 at *
          go_wp2_with fail
          have hs1 := (D1.out.setNow k (P k).safe).congr (Q := fun x => if x < k + 1 then settleNow P keep x else P x) (fun x _ => by
            by_cases hx : x = k
            · subst hx
              rw [upd_same]
              simp only [Nat.lt_irrefl, if_false, Nat.lt_succ_self, if_true, HSN.out]
              rw [HFR.out]
            · rw [upd_other _ _ _ _ hx]
              by_cases h1 : x < k
              · simp only [h1, if_true, show x < k + 1 by omega]
              · simp only [h1, if_false, show ¬ x < k + 1 by omega])
          have hc1 : Chg (RS bn bs bf) w (w2.setCell ⟨bn, k, Option.none⟩ (.string (P k).safe)) := B1.out.setCell (fun _ => Or.inl rfl) _
          go_roundw
          case rel => exact ⟨k + 1, j + 1, by omega, by omega, by rw [HF.out, List.length_append, ← HJ.out]; rfl, by go_num, by go_num, hs1, hc1⟩
          case measure => simp [intOf]; omega
        · simp only [Bool.not_true] at hb
          clear hbk hf
          go_wp2_with fail
          go_roundw
          case rel => exact ⟨k + 1, j + 1, by omega, by omega, by rw [HF.out, List.length_append, ← HJ.out]; rfl, by go_num, by go_num, hD.out.congr (fun x _ => settleNow_step _ _ _ _ (by rw [HSN.out]; rfl)), hB⟩
          case measure => simp [intOf]; omega
    · obtain rfl : n = k := by omega
      obtain ⟨c0, c1, c2⟩ := hD.out.facts
      go_wp2_with fail
      refine (refSync_any _ _ _ _ _ _ _ hD.out).mono ?_
      rintro e w2 ⟨rfl, hd2, hb2⟩
      go_wp2_with fail
      go_returns
      exact ⟨rfl, hd2.congr (fun i hi => by
        rw [if_pos hi]
        unfold settled
        cases hf : (P i).fresh
        · rw [settleNow_no _ _ _ hf, if_neg (fun x => by cases x.1)]
        · have hr := rank_lt P i n hi hf
          rw [settleNow_yes _ _ _ hf]
          cases hb : bitK keep (freshL P i).length <;> simp [Pg.settle, Pg.secure, hr]), hB.out.trans hb2 (fun _ _ h => h)⟩

theorem stringInfo : (Try.prog.info? 9).map (fun i => (i.zero, i.size, i.bytes)) = some (some (.string ⟨#[]⟩), 1, 16) := by kernel_rfl
theorem boolInfo : (Try.prog.info? 4).map (fun i => (i.zero, i.size, i.bytes)) = some (some (.bool false), 1, 1) := by kernel_rfl
def RefNewP (w : World) (n : Nat) (e : Ending) (w' : World) : Prop := ∃ g bn bs bf, e = .returned (.pointer (some ⟨g, 0, Option.none⟩)) ∧ w.heap.size ≤ g ∧ w.heap.size ≤ bn ∧ w.heap.size ≤ bs ∧ w.heap.size ≤ bf ∧ Rd w' g bn bs bf n (fun _ => Pg.none) ∧ Below w.heap.size w w'
set_option maxHeartbeats 1000000 in
theorem refNew_any (n : Int) (w : World) :
    Calls Try.prog 9 #[.int .i64 n] w (RefNewP w (near n)) := by
  have hn := near_le n
  have e1 : max 0 (min n 256) = (near n : Int) := by unfold near; omega
  have hmk := make_rows (P := Try.prog) 35 9 _ _ _ Try.underlying35 stringInfo .i64 .i64 (near n) (by omega) (by omega)
  have hmb := make_rows (P := Try.prog) 36 4 _ _ _ Try.underlying36 boolInfo .i64 .i64 (near n) (by omega) (by omega)
  generalize near n = k at *
  go_enter Try.func9, Try.ntmps9
  go_wp2_with fail
  go_region
  all_goals
    go_wp2_with fail
    go_returns
    obtain ⟨hA, hB, hC, hD⟩ := look4 w _ _ _ _
    refine ⟨_, _, _, _, rfl, ?_, ?_, ?_, ?_, ⟨hD, ?_, ?_, ?_, hn, ?_, ?_, ?_, ?_, ?_, ?_⟩, ?_⟩
    all_goals first | omega | exact Tab.of_made hA | exact Tab.of_made hB | exact Tab.of_made hC | exact blN (blA (blA (blA (blA (Below.refl _ _) _) _) _) _) 1
end Go.Proofs.Ytalaipmhihokjaa.Sl
