/- Texts of ours, joined. -/
import Derived.Test.YtmnfoafpjmlbfaaGreatDoorTab
import Derived.Test.YtmnfoafpjmlbfaaGreatDoorAid

-- joined
section
namespace Go.Proofs.YtmnfoafpjmlbfaaGreatDoor.Sl
open Go.ChangeShapes Go.WideShapes Go.ChangeAt Go.RowKit Go.PlainAid Aid Mn
set_option linter.unusedVariables false
set_option linter.unusedSimpArgs false

theorem Clone_any (s : ByteArray) (w : World) (hs : s.size ≤ 281474976710656) :
    Calls Tryz.prog 129 #[.string s] w fun e w' => e = .returned (.string s) ∧ Below w.heap.size w w' := by
  go_enter Tryz.func129, Tryz.ntmps129
  go_wp2_with fail
  refine (Tryz.stringslite_Clone s _ hs).mono ?_
  rintro e w1 ⟨rfl, hb1⟩
  go_wp2_with fail
  go_returns
  exact ⟨rfl, hb1⟩

theorem Len_any (g m b n : Nat) (P : Nat → Pg) (q : Pw) (w : World) (h : Dk w g m b n P q) :
    Calls Tryz.prog 80 #[.pointer (some ⟨g, 0, Option.none⟩)] w fun e w' => e = .returned (.int .i64 n) ∧ w = w' := by
  obtain ⟨c0, c1⟩ := h.facts
  clear h
  go_enter Tryz.func80, Tryz.ntmps80
  go_wp2_with fail
  go_returns
  exact ⟨rfl, rfl⟩

set_option maxHeartbeats 400000 in
theorem secure_any (b n i : Nat) (P : Nat → Pg) (w : World) (h : Pgs w b n P) (hi : i < n) :
    Calls Tryz.prog 62 #[.pointer (some ⟨b, i * 3, Option.none⟩)] w fun e w' => e = .returned (.tuple #[]) ∧ Pgs w' b n (upd P i (P i).secure) ∧ Chg (· = b) w w' := by
  obtain ⟨c0, c1, c2⟩ := h.cell hi
  have f0 : w.frozen? ⟨b, i * 3, Option.none⟩ = false := Tab.free h _
  have f1 : w.frozen? ⟨b, i * 3 + 1, Option.none⟩ = false := Tab.free h _
  have f2 : w.frozen? ⟨b, i * 3 + 2, Option.none⟩ = false := Tab.free h _
  have H := Lib.hid h
  clear h
  go_enter Tryz.func62, Tryz.ntmps62
  go_wp2_with fail
  go_returns
  refine ⟨rfl, ?_, ((Chg.refl _ _).set1 _ _).set1 _ _⟩
  have h1 := H.out.set i 1 (by omega) ⟨(P i).now, (P i).now, (P i).fresh⟩ (.string (P i).now) (by intro k hk; rcases (show k = 0 ∨ k = 1 ∨ k = 2 by omega) with rfl | rfl | rfl <;> rfl)
  have h2 := h1.set i 2 (by omega) (P i).secure (.bool false) (by intro k hk; rw [upd_same]; rcases (show k = 0 ∨ k = 1 ∨ k = 2 by omega) with rfl | rfl | rfl <;> rfl)
  exact h2.congr (fun k _ => by by_cases hk : k = i <;> simp [upd, hk])

set_option maxHeartbeats 400000 in
theorem Read_no (g m b n : Nat) (P : Nat → Pg) (q : Pw) (i : Int) (w : World) (h : Dk w g m b n P q) (hi : i < 0 ∨ (n : Int) ≤ i) :
    Calls Tryz.prog 56 #[.pointer (some ⟨g, 0, Option.none⟩), .int .i64 i] w fun e w' => e = .returned (.tuple #[.string ⟨#[]⟩, .int .i64 1]) ∧ w = w' := by
  have hn := Lib.hid (has_no g m b n P q i w h hi)
  clear h hi
  go_enter Tryz.func56, Tryz.ntmps56
  go_wp2_with fail
  refine hn.out.mono ?_
  rintro e w' ⟨rfl, rfl⟩
  go_wp2_with fail
  go_returns
  exact ⟨rfl, rfl⟩
def Pw.down (q : Pw) : Int := if q.on then 0 else 4
def readV (q : Pw) (s : ByteArray) : Value := if q.on then .tuple #[.string s, .int .i64 0] else .tuple #[.string ⟨#[]⟩, .int .i64 4]
set_option maxHeartbeats 400000 in
theorem Read_yes (g m b n : Nat) (P : Nat → Pg) (q : Pw) (i : Nat) (w : World) (h : Dk w g m b n P q) (hi : i < n) :
    Calls Tryz.prog 56 #[.pointer (some ⟨g, 0, Option.none⟩), .int .i64 i] w fun e w' => e = .returned (readV q (P i).now) ∧ w = w' := by
  have hn := Lib.hid (has_yes g m b n P q i w h hi)
  obtain ⟨c0, c1⟩ := h.facts
  have ho := Lib.hid (IsOn_any m q w h.power)
  obtain ⟨d0, -, -⟩ := h.pages.cell hi
  have hs := h.small
  unfold readV
  clear h
  cases hq : q.on <;> rw [hq] at ho
  all_goals
    clear hq
    go_enter Tryz.func56, Tryz.ntmps56
    go_wp2_with fail
    refine hn.out.mono ?_
    rintro e w' ⟨rfl, rfl⟩
    go_wp2_with fail
    refine ho.out.mono ?_
    rintro e w' ⟨rfl, rfl⟩
    go_wp2_with fail
    go_returns
    exact ⟨rfl, rfl⟩

theorem ans_cases (q : Pw) : q.ans = 0 ∨ q.ans = 4 := by unfold Pw.ans; split; · exact Or.inr rfl
                                                         split; · exact Or.inr rfl
                                                         exact Or.inl rfl
def wrongW (n : Nat) (i : Int) (s : ByteArray) : Prop := i < 0 ∨ (n : Int) ≤ i ∨ s.size ≠ 256
set_option maxHeartbeats 400000 in
theorem Write_arg (g m b n : Nat) (P : Nat → Pg) (q : Pw) (i : Int) (s : ByteArray) (w : World) (h : Dk w g m b n P q) (hi : wrongW n i s) :
    Calls Tryz.prog 90 #[.pointer (some ⟨g, 0, Option.none⟩), .int .i64 i, .string s] w fun e w' => e = .returned (.int .i64 1) ∧ w = w' := by
  by_cases hb : i < 0 ∨ (n : Int) ≤ i
  · have hn := Lib.hid (has_no g m b n P q i w h hb)
    clear h hi hb
    go_enter Tryz.func90, Tryz.ntmps90
    go_wp2_with fail
    refine hn.out.mono ?_
    rintro e w' ⟨rfl, rfl⟩
    go_wp2_with fail
    go_returns
    exact ⟨rfl, rfl⟩
  · have hs : ¬ s.size = 256 := by rcases hi with hi | hi | hi; · omega
                                   · omega
                                   · exact hi
    obtain ⟨k, rfl⟩ : ∃ k : Nat, i = k := ⟨i.toNat, by omega⟩
    have hn := Lib.hid (has_yes g m b n P q k w h (by omega))
    have hs1 : ((s.size : Int) == 256) = false := by simpa using (by omega : ¬ (s.size : Int) = 256)
    clear h hi hb hs
    go_enter Tryz.func90, Tryz.ntmps90
    go_wp2_with fail
    refine hn.out.mono ?_
    rintro e w' ⟨rfl, rfl⟩
    go_wp2_with fail
    go_returns
    exact ⟨rfl, rfl⟩
set_option maxHeartbeats 400000 in
theorem Write_down (g m b n : Nat) (P : Nat → Pg) (q : Pw) (i : Nat) (s : ByteArray) (w : World) (h : Dk w g m b n P q) (hi : i < n) (hs : s.size = 256) (hq : q.ans = 4) :
    Calls Tryz.prog 90 #[.pointer (some ⟨g, 0, Option.none⟩), .int .i64 i, .string s] w fun e w' => e = .returned (.int .i64 4) ∧ Dk w' g m b n P q.use ∧ Chg (DS m b) w w' := by
  have hn := Lib.hid (has_yes g m b n P q i w h hi)
  have hu := Lib.hid (Use_as m q w h.power 4 _ hq rfl)
  obtain ⟨c0, c1⟩ := h.facts
  have hs1 : (s.size : Int) = 256 := by omega
  have H := Lib.hid h
  clear h hs hq
  go_enter Tryz.func90, Tryz.ntmps90
  go_wp2_with fail
  refine hn.out.mono ?_
  rintro e w' ⟨rfl, rfl⟩
  go_wp2_with fail
  refine hu.out.mono ?_
  rintro e w1 ⟨rfl, hm1, hb1⟩
  go_wp2_with fail
  go_returns
  exact ⟨rfl, H.out.pow hm1 hb1, hb1.mono (fun _ _ e => Or.inl e)⟩
set_option maxHeartbeats 400000 in
theorem Write_ok (g m b n : Nat) (P : Nat → Pg) (q : Pw) (i : Nat) (s : ByteArray) (w : World) (h : Dk w g m b n P q) (hi : i < n) (hs : s.size = 256) (hq : q.ans = 0) :
    Calls Tryz.prog 90 #[.pointer (some ⟨g, 0, Option.none⟩), .int .i64 i, .string s] w fun e w' => e = .returned (.int .i64 0) ∧ Dk w' g m b n (upd P i ((P i).write s)) q.use ∧ Chg (DS m b) w w' := by
  have hn := Lib.hid (has_yes g m b n P q i w h hi)
  have hu := Lib.hid (Use_as m q w h.power 0 _ hq rfl)
  obtain ⟨c0, c1⟩ := h.facts
  have hs1 : (s.size : Int) = 256 := by omega
  have HS := Lib.hid hs
  have hsm := h.small
  have H := Lib.hid h
  clear h hs hq
  go_enter Tryz.func90, Tryz.ntmps90
  go_wp2_with fail
  refine hn.out.mono ?_
  rintro e w' ⟨rfl, rfl⟩
  go_wp2_with fail
  refine hu.out.mono ?_
  rintro e w1 ⟨rfl, hm1, hb1⟩
  have H1 := Lib.hid (H.out.pow hm1 hb1)
  have B1 : Hid (Chg (DS m b) w w1) := hb1.mono (fun _ _ e => Or.inl e)
  obtain ⟨c2, c3⟩ := H1.out.facts
  clear hm1 hb1 c0 c1 H
  go_wp2_with fail
  refine (Clone_any s _ (by rw [HS.out]; omega)).mono ?_
  rintro e w2 ⟨rfl, hb2⟩
  have H2 := Lib.hid (H1.out.below hb2)
  have B2 : Hid (Chg (DS m b) w w2) := B1.out.trans (T := fun _ => False) (Chg.of_below hb2) (fun _ _ f => f.elim)
  obtain ⟨d0, d1, d2⟩ := H2.out.pages.cell hi
  have f0 : w2.frozen? ⟨b, i * 3, Option.none⟩ = false := Tab.free H2.out.pages _
  have f2 : w2.frozen? ⟨b, i * 3 + 2, Option.none⟩ = false := Tab.free H2.out.pages _
  clear hb2 H1 B1 c2 c3
  go_wp2_with fail
  go_returns
  have h1 := H2.out.pages.set i 0 (by omega) ⟨s, (P i).safe, (P i).fresh⟩ (.string s) (by intro k hk; rcases (show k = 0 ∨ k = 1 ∨ k = 2 by omega) with rfl | rfl | rfl <;> rfl)
  have h2 := h1.set i 2 (by omega) ((P i).write s) (.bool true) (by intro k hk; rw [upd_same]; rcases (show k = 0 ∨ k = 1 ∨ k = 2 by omega) with rfl | rfl | rfl <;> rfl)
  have h3 := h2.congr (Q := upd P i ((P i).write s)) (fun k _ => by by_cases hk : k = i <;> simp [upd, hk])
  have hc : Chg (· = b) w2 ((w2.setCell ⟨b, i * 3, Option.none⟩ (.string s)).setCell ⟨b, i * 3 + 2, Option.none⟩ (.bool true)) := ((Chg.refl _ _).set1 _ _).set1 _ _
  exact ⟨rfl, ⟨H2.out.disk.keep hc H2.out.gb, h3, H2.out.power.keep hc H2.out.mb, H2.out.small, H2.out.gm, H2.out.gb, H2.out.mb⟩, B2.out.trans hc (fun _ _ e => Or.inr e)⟩

set_option maxHeartbeats 400000 in
theorem Sync_down (g m b n : Nat) (P : Nat → Pg) (q : Pw) (w : World) (h : Dk w g m b n P q) (hq : q.ans = 4) :
    Calls Tryz.prog 48 #[.pointer (some ⟨g, 0, Option.none⟩)] w fun e w' => e = .returned (.int .i64 4) ∧ Dk w' g m b n P q.use ∧ Chg (DS m b) w w' := by
  have hu := Lib.hid (Use_as m q w h.power 4 _ hq rfl)
  obtain ⟨c0, c1⟩ := h.facts
  have H := Lib.hid h
  clear h hq
  go_enter Tryz.func48, Tryz.ntmps48
  go_wp2_with fail
  refine hu.out.mono ?_
  rintro e w1 ⟨rfl, hm1, hb1⟩
  go_wp2_with fail
  go_returns
  exact ⟨rfl, H.out.pow hm1 hb1, hb1.mono (fun _ _ e => Or.inl e)⟩
/-- The first k pages are safe. -/
def secured (P : Nat → Pg) (k : Nat) : Nat → Pg := fun i => if i < k then (P i).secure else P i
set_option maxHeartbeats 400000 in
theorem Sync_ok (g m b n : Nat) (P : Nat → Pg) (q : Pw) (w : World) (h : Dk w g m b n P q) (hq : q.ans = 0) :
    Calls Tryz.prog 48 #[.pointer (some ⟨g, 0, Option.none⟩)] w fun e w' => e = .returned (.int .i64 0) ∧ Dk w' g m b n (fun i => (P i).secure) q.use ∧ Chg (DS m b) w w' := by
  have hu := Lib.hid (Use_as m q w h.power 0 _ hq rfl)
  obtain ⟨c0, c1⟩ := h.facts
  have H := Lib.hid h
  have hsm := h.small
  clear h hq
  go_enter Tryz.func48, Tryz.ntmps48
  go_wp2_with fail
  refine hu.out.mono ?_
  rintro e w1 ⟨rfl, hm1, hb1⟩
  have H1 := Lib.hid (H.out.pow hm1 hb1)
  have B1 : Hid (Chg (DS m b) w w1) := hb1.mono (fun _ _ e => Or.inl e)
  obtain ⟨c2, c3⟩ := H1.out.facts
  clear hm1 hb1 c0 c1 H
  go_wp2_with fail
  go_loopw [20] (fun i wr => ∃ k : Nat, k ≤ n ∧ i = .int .i64 k ∧ Hid (Dk wr g m b n (secured P k) q.use) ∧ Hid (Chg (DS m b) w wr)) (fun i _ => n - (intOf i).toNat)
  case atStart => exact ⟨0, Nat.zero_le _, rfl, H1, B1⟩
  case round =>
    clear H1 B1 c2 c3
    obtain ⟨k, hk, rfl, hD, hB⟩ := hrel
    by_cases hlt : k < n
    · obtain ⟨c2, c3⟩ := hD.out.facts
      go_wp2_with fail
      refine (secure_any b n k _ _ hD.out.pages hlt).mono ?_
      rintro e w2 ⟨rfl, hp2, hb2⟩
      have D2 : Hid (Dk w2 g m b n (secured P (k + 1)) q.use) := ⟨hD.out.disk.keep hb2 hD.out.gb, hp2.congr (fun i _ => by
        by_cases hi : i = k
        · subst hi; simp [upd, secured]
        · simp only [upd, if_neg hi, secured]; by_cases h1 : i < k <;> simp [h1, show (i < k + 1) ↔ (i < k) by omega]), hD.out.power.keep hb2 hD.out.mb, hD.out.small, hD.out.gm, hD.out.gb, hD.out.mb⟩
      have B2 : Hid (Chg (DS m b) w w2) := hB.out.trans hb2 (fun _ _ e => Or.inr e)
      clear hp2 hb2 hD hB c2 c3
      go_wp2_with fail
      go_roundw
      case rel => exact ⟨k + 1, by omega, by go_num, D2, B2⟩
      case measure => simp [intOf]; omega
    · obtain rfl : n = k := by omega
      go_wp2_with fail
      go_returns
      have D := hD.out
      exact ⟨rfl, ⟨D.disk, D.pages.congr (fun i hi => by simp [secured, hi]), D.power, D.small, D.gm, D.gb, D.mb⟩, hB.out⟩
end Go.Proofs.YtmnfoafpjmlbfaaGreatDoor.Sl
end

-- joined
section
namespace Go.Proofs.YtmnfoafpjmlbfaaGreatDoor.Aid
open Go.ChangeShapes Go.WideShapes Go.ChangeAt Go.RowKit Go.PlainAid
set_option linter.unusedVariables false

theorem Chg.of_grown {w w' : World} {row : Option Nat} (h : w.grownBy w' row) : Chg (fun k => row = some k) w w' :=
  ⟨h.os, h.tape, h.output, h.size, fun k hk hs => h.block k hk (fun e => hs e.symm)⟩
/-- What is known of an own row's block: it is none of those that were there. -/
theorem own_base {w : World} {base : Nat} {e : TypeId} {size : Nat} {v : Value} {n : Nat} {xs : List Value} (h : w.ownsRow base e size v n xs) : ∀ k, v.ownBlock = some k → base ≤ k := fun k hk => (h.lt k hk).1
theorem ownC {S : Nat → Prop} {w w' : World} {base : Nat} {e : TypeId} {size : Nat} {v : Value} {n : Nat} {xs : List Value} (h : w.ownsRow base e size v n xs) (hb : Chg S w w') (hS : ∀ k, base ≤ k → ¬ S k) : w'.ownsRow base e size v n xs := by
  obtain ⟨h1, ⟨rfl, rfl⟩ | ⟨g, cap, cur, rfl, hg0, hg, hn, hc, hz, ht⟩⟩ := h
  · exact ⟨h1, Or.inl ⟨rfl, rfl⟩⟩
  · refine ⟨h1, Or.inr ⟨g, cap, cur, rfl, hg0, ?_, hn, hc, hz, ht⟩⟩
    have hlt : g < w.heap.size := by
      rcases Nat.lt_or_ge g w.heap.size with h' | h'
      · exact h'
      · simp [Array.getElem?_eq_none h'] at hg
    rw [hb.block g hlt (hS g hg0)]; exact hg
theorem own_open {w : World} {base : Nat} {e : TypeId} {size : Nat} {v : Value} {n : Nat} {xs : List Value} (h : w.ownsRow base e size v n xs) :
    ∃ (A : Option Addr) (cap : Nat), v = .slice A n cap ∧ n ≤ maxLen ∧ (0 < n → ∃ g, A = some ⟨g, 0, none⟩ ∧ base ≤ g ∧ g < w.heap.size) := by
  have hlt := h.lt
  obtain ⟨h1, ⟨rfl, rfl⟩ | ⟨g, cap, cur, rfl, hb, hg, hn, hc, -, -⟩⟩ := h
  · exact ⟨none, 0, rfl, by unfold maxLen; omega, fun h => absurd h (by omega)⟩
  · exact ⟨_, cap, rfl, by omega, fun _ => ⟨g, rfl, hb, (hlt g rfl).2⟩⟩
section
variable {P : Program} {ops : Array Oper} {rest : List Oper} {o : Oper} {a : Act} {Q : Exit → Act → World → Prop}
/-- append(s, u), u behind its own new block (buildSlice): s a row that the call made itself. -/
theorem append1_own (w : World) (hgd : o.guard = none) (s x : Operand) (t : TypeId)
    (ho : o.op = .call { callee := .builtin .append, args := #[s, x], argTypes := #[t, t] })
    (base : Nat) (e : TypeId) (z : Value) (bytes : Nat) (ht : P.underlying t = some (.slice e)) (hinfo : (P.info? e).map (fun i => (i.zero, i.size, i.bytes)) = some (some z, 1, bytes)) (hz1 : z.cells.size = 1)
    (v : Value) (n : Nat) (xs : List Value) (hs : a.eval s = v) (hown : w.ownsRow base e 1 v n xs) (hbase : base ≤ w.heap.size)
    (u : Value) (hu : u.oneCell' = true) (c : Nat) (T : TypeId) (gx : Nat) (hgx : gx = w.heap.size) (hx : a.eval x = .slice (some ⟨gx, 0, none⟩) 1 c) (h63 : n + 1 ≤ maxLen) (hbytes : (n + 1) * bytes ≤ 140737488355328)
    (h : ∀ v' w', w'.ownsRow base e 1 v' (n + 1) (xs ++ [u]) → Chg (fun k => v.ownBlock = some k) w w' → wpList P ops Q rest (a.put o.dst v') w') : wpList P ops Q (o :: rest) a (w.alloc (.cells #[u] T)) := by
  subst hgx
  obtain ⟨i, hi, hzz⟩ := Option.map_eq_some_iff.1 hinfo
  simp only [Prod.mk.injEq] at hzz
  obtain ⟨hz, hsz, hb⟩ := hzz
  refine wpList_append_own _ hgd s x t ho base e i z 1 bytes ht hi hz hsz hb hz1 (by decide) v n xs hs (hown.alloc _) ⟨w.heap.size, 0, none⟩ 1 c [u] hx rfl ?_ ?_ h63 hbytes ?_ ?_
  · refine append1 ?_
    exact (Blk.new w #[u] T).cell 0
  · intro y hy
    simp only [List.mem_cons, List.not_mem_nil, or_false] at hy
    subst hy; exact hu
  · simp; omega
  · intro v' w' h1 h2 _
    refine h v' w' h1 ?_
    exact (Chg.of_below (S := fun k => v.ownBlock = some k) (blA (Below.refl _ _) _)).trans (Chg.of_grown h2) (fun _ _ h => h)
end
end Go.Proofs.YtmnfoafpjmlbfaaGreatDoor.Aid
end
