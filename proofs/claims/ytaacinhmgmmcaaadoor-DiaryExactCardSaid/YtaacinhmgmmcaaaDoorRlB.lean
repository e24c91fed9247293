import Derived.Test.YtaacinhmgmmcaaaDoorVec
import Derived.Test.YtaacinhmgmmcaaaDoorMnB
namespace Go.Proofs.YtaacinhmgmmcaaaDoor.Rl
open Go.ChangeShapes Go.WideShapes Go.ChangeAt Go.RowKit Go.PlainAid Aid Mn
set_option linter.unusedVariables false
set_option linter.unusedSimpArgs false

def rlRow (m size : Nat) (v : Value) (safe : Nat) : Array Value := #[.pointer (some ⟨m, 0, none⟩), .int .i64 size, v, .int .i64 safe]
/-- Bytes that lie in the blocks of O, the head in block g, on the power in block m. -/
structure Rl (w : World) (g m : Nat) (O : Nat → Prop) (size : Nat) (s : ByteArray) (safe : Nat) : Prop where
  ex : ∃ v, Blk w g 71 (rlRow m size v safe) ∧ Vec w 5 1 v s.size (byteCells s) ∧ (∀ k, VB v k → k ≠ g ∧ k ≠ m) ∧ O = fun k => k = g ∨ VB v k
  small : size ≤ 262144
  fits : s.size ≤ size
  safe : safe ≤ s.size
  gm : g ≠ m
section
variable {w w' : World} {g m size safe : Nat} {O S : Nat → Prop} {s : ByteArray}
theorem Rl.keep (h : Rl w g m O size s safe) (hb : Chg S w w') (hS : ∀ k, O k → ¬ S k) : Rl w' g m O size s safe := by
  obtain ⟨v, h1, h2, h3, rfl⟩ := h.ex
  exact ⟨⟨v, h1.keep hb (hS _ (Or.inl rfl)), h2.keep hb (fun k hk => hS _ (Or.inr hk)), h3, rfl⟩, h.small, h.fits, h.safe, h.gm⟩
theorem Rl.keepB (h : Rl w g m O size s safe) (hb : Below w.heap.size w w') : Rl w' g m O size s safe := h.keep (S := fun _ => False) (Chg.of_below hb) (fun _ _ => id)
theorem Rl.lt (h : Rl w g m O size s safe) {k : Nat} (hk : O k) : k < w.heap.size := by
  obtain ⟨v, h1, h2, h3, rfl⟩ := h.ex
  rcases hk with rfl | hk
  · exact h1.lt
  · exact h2.lt hk
theorem Rl.head (h : Rl w g m O size s safe) : O g := by
  obtain ⟨v, h1, h2, h3, rfl⟩ := h.ex
  exact Or.inl rfl
theorem Rl.notm (h : Rl w g m O size s safe) : ¬ O m := by
  obtain ⟨v, h1, h2, h3, rfl⟩ := h.ex
  rintro (e | e)
  · exact h.gm e.symm
  · exact (h3 _ e).2 rfl
theorem Rl.pow (h : Rl w g m O size s safe) (hb : Chg (· = m) w w') : Rl w' g m O size s safe := h.keep hb (fun k hk e => h.notm (e ▸ hk))
end
theorem rl_cells {w : World} {g m size safe : Nat} {v : Value} (h : Blk w g 71 (rlRow m size v safe)) :
    w.cell? ⟨g, 0, none⟩ = some (.pointer (some ⟨m, 0, none⟩)) ∧ w.cell? ⟨g, 1, none⟩ = some (.int .i64 size) ∧ w.cell? ⟨g, 2, none⟩ = some v ∧ w.cell? ⟨g, 3, none⟩ = some (.int .i64 safe) ∧ w.frozen? ⟨g, 2, none⟩ = false ∧ w.frozen? ⟨g, 3, none⟩ = false :=
  ⟨h.cell 0, h.cell 1, h.cell 2, h.cell 3, h.free 2, h.free 3⟩
theorem u8Info : (Tryd.prog.info? 5).map (fun i => (i.zero, i.size, i.bytes)) = some (some (.int .u8 0), 1, 1) := by kernel_rfl

/-- The nearest room. -/
def nearR (n : Int) : Nat := (min (max n 0) 262144).toNat
theorem nearR_le (n : Int) : nearR n ≤ 262144 := by unfold nearR; omega
set_option maxHeartbeats 400000 in
theorem New_any (m : Nat) (n : Int) (w : World) (hm : m < w.heap.size) :
    Calls Tryd.prog 6 #[.pointer (some ⟨m, 0, none⟩), .int .i64 n] w fun e w' => e = .returned (.pointer (some ⟨w.heap.size, 0, none⟩)) ∧ (∃ O, Rl w' w.heap.size m O (nearR n) ⟨#[]⟩ 0 ∧ Fresh w (fun _ => False) O) ∧ Below w.heap.size w w' := by
  have hn := nearR_le n
  have e0 : (nearR n : Int) = if n < 0 then 0 else if 262144 < n then 262144 else n := by unfold nearR; split <;> (try split) <;> omega
  have key : ∀ (x : Int), x = (nearR n : Int) → ∃ O, Rl (w.alloc (.cells #[.pointer (some ⟨m, 0, none⟩), .int .i64 x, .slice none 0 0, .int .i64 0] 71)) w.heap.size m O (nearR n) ⟨#[]⟩ 0 ∧ Fresh w (fun _ => False) O := by
    rintro x rfl
    refine ⟨_, ⟨⟨.slice none 0 0, Blk.new _ _ _, Vec.nil _ _ _, (fun k hk => by cases hk), rfl⟩, hn, Nat.zero_le _, Nat.zero_le _, by omega⟩, ?_⟩
    rintro j (rfl | h)
    · exact Or.inr (Nat.le_refl _)
    · cases h
  have KEY := Lib.hid key
  have E0 := Lib.hid e0
  clear key hn e0
  go_enter Tryd.func6, Tryd.ntmps6
  go_wp2_with fail
  all_goals
    go_returns
    exact ⟨rfl, KEY.out _ (by rw [E0.out]; split <;> (try split) <;> omega), blA (Below.refl _ _) _⟩

set_option maxHeartbeats 400000 in
theorem Len_any (g m : Nat) (O : Nat → Prop) (size : Nat) (s : ByteArray) (safe : Nat) (w : World) (h : Rl w g m O size s safe) :
    Calls Tryd.prog 29 #[.pointer (some ⟨g, 0, none⟩)] w fun e w' => e = .returned (.int .i64 s.size) ∧ w = w' := by
  obtain ⟨v, h1, h2, h3, rfl⟩ := h.ex
  obtain ⟨c0, c1, c2, c3, f2, f3⟩ := rl_cells h1
  have hf := h2.forms
  clear h h1 h2 h3
  rcases hf with ⟨rfl, hz⟩ | ⟨b, cap, rfl, hb, hc, hm⟩
  · rw [hz]
    clear hz
    go_enter Tryd.func29, Tryd.ntmps29
    go_wp2_with fail
    go_returns
    exact ⟨rfl, rfl⟩
  · go_enter Tryd.func29, Tryd.ntmps29
    go_wp2_with fail
    go_returns
    exact ⟨rfl, rfl⟩
set_option maxHeartbeats 400000 in
theorem Safe_any (g m : Nat) (O : Nat → Prop) (size : Nat) (s : ByteArray) (safe : Nat) (w : World) (h : Rl w g m O size s safe) :
    Calls Tryd.prog 54 #[.pointer (some ⟨g, 0, none⟩)] w fun e w' => e = .returned (.int .i64 safe) ∧ w = w' := by
  obtain ⟨v, h1, h2, h3, rfl⟩ := h.ex
  obtain ⟨c0, c1, c2, c3, f2, f3⟩ := rl_cells h1
  clear h h1 h2 h3
  go_enter Tryd.func54, Tryd.ntmps54
  go_wp2_with fail
  go_returns
  exact ⟨rfl, rfl⟩
set_option maxHeartbeats 400000 in
theorem Left_any (g m : Nat) (O : Nat → Prop) (size : Nat) (s : ByteArray) (safe : Nat) (w : World) (h : Rl w g m O size s safe) :
    Calls Tryd.prog 38 #[.pointer (some ⟨g, 0, none⟩)] w fun e w' => e = .returned (.int .i64 ((size : Int) - (s.size : Int))) ∧ ∃ k, w' = w.drewN k := by
  obtain ⟨v, h1, h2, h3, rfl⟩ := h.ex
  obtain ⟨c0, c1, c2, c3, f2, f3⟩ := rl_cells h1
  have hf := h2.forms
  have k1 := h.small
  have k2 := h.fits
  clear h h1 h2 h3
  rcases hf with ⟨rfl, hz⟩ | ⟨b, cap, rfl, hb, hc, hm⟩
  · rw [hz]
    clear hz k2
    go_enter Tryd.func38, Tryd.ntmps38
    go_wp2_with fail
    go_quiet (fail)
    go_wp2_with fail
    go_returns
    exact ⟨by simp, _, rfl⟩
  · go_enter Tryd.func38, Tryd.ntmps38
    go_wp2_with fail
    go_quiet (fail)
    go_wp2_with fail
    go_returns
    exact ⟨rfl, _, rfl⟩
def readV (q : Pw) (s : ByteArray) : Value := if q.on then .tuple #[.string s, .int .i64 0] else .tuple #[.string ⟨#[]⟩, .int .i64 4]
set_option maxRecDepth 100000 in
set_option maxHeartbeats 400000 in
theorem Read_any (g m : Nat) (O : Nat → Prop) (size : Nat) (s : ByteArray) (safe : Nat) (q : Pw) (w : World) (h : Rl w g m O size s safe) (hm : Mn w m q) :
    Calls Tryd.prog 24 #[.pointer (some ⟨g, 0, none⟩)] w fun e w' => e = .returned (readV q s) ∧ w = w' := by
  obtain ⟨v, h1, h2, h3, rfl⟩ := h.ex
  obtain ⟨c0, c1, c2, c3, f2, f3⟩ := rl_cells h1
  have hcv := h2.conv (P := Tryd.prog) Tryd.underlying69 Tryd.underlying5 Tryd.underlying9
  have hf := h2.forms
  have ho := Lib.hid (IsOn_any m q w hm)
  unfold readV
  clear h h1 h2 h3 hm
  cases hq : q.on <;> rw [hq] at ho
  · clear hq hcv hf
    go_enter Tryd.func24, Tryd.ntmps24
    go_wp2_with fail
    refine ho.out.mono ?_
    rintro e w' ⟨rfl, rfl⟩
    go_wp2_with fail
    go_returns
    exact ⟨rfl, rfl⟩
  · clear hq
    go_enter Tryd.func24, Tryd.ntmps24
    go_wp2_with fail
    refine ho.out.mono ?_
    rintro e w' ⟨rfl, rfl⟩
    rcases hf with ⟨rfl, hz⟩ | ⟨b, cap, rfl, hb, hc, hm⟩
    · go_wp2_with fail
      go_returns
      exact ⟨rfl, rfl⟩
    · go_wp2_with fail
      go_returns
      exact ⟨rfl, rfl⟩
set_option maxHeartbeats 400000 in
theorem cut_any (g m : Nat) (O : Nat → Prop) (size : Nat) (s : ByteArray) (safe n : Nat) (w : World) (h : Rl w g m O size s safe) (hn : n ≤ s.size) :
    Calls Tryd.prog 42 #[.pointer (some ⟨g, 0, none⟩), .int .i64 n] w fun e w' => e = .returned (.tuple #[]) ∧ Rl w' g m O size (s.extract 0 n) n ∧ Chg (· = g) w w' := by
  obtain ⟨v, h1, h2, h3, rfl⟩ := h.ex
  obtain ⟨c0, c1, c2, c3, f2, f3⟩ := rl_cells h1
  have hz : (s.extract 0 n).size = n := by simp; omega
  rcases h2.forms with ⟨rfl, hz0⟩ | ⟨b, cap, rfl, hb, hc, hm⟩
  · obtain rfl : n = 0 := by omega
    have HH := Lib.hid h
    have H1 := Lib.hid h1
    have HZ := Lib.hid hz
    have HZ0 := Lib.hid hz0
    clear h h1 h2 h3 hn hz hz0
    go_enter Tryd.func42, Tryd.ntmps42
    go_wp2_with fail
    go_returns
    refine ⟨rfl, ⟨⟨.slice none 0 0, (H1.out.set 2 _).set 3 _, ?_, (fun k hk => by cases hk), rfl⟩, HH.out.small, by have := HZ.out; omega, by have := HZ.out; omega, HH.out.gm⟩, ((Chg.refl _ _).set1 _ _).set1 _ _⟩
    rw [HZ.out, show byteCells (s.extract 0 0) = [] from List.eq_nil_of_length_eq_zero (by rw [byteCells_length]; exact HZ.out)]
    exact Vec.nil _ _ _
  · have HH := Lib.hid h
    have H1 := Lib.hid h1
    have H2 := Lib.hid h2
    have H3 := Lib.hid h3
    have HZ := Lib.hid hz
    have hnc : n ≤ cap := by omega
    unfold maxLen at hm
    clear h h1 h2 h3 hz
    go_enter Tryd.func42, Tryd.ntmps42
    go_wp2_with fail
    go_returns
    have e1 := H2.out.cut hn
    rw [Nat.mul_one, byteCells_take] at e1
    have hbg := (H3.out b rfl).1
    refine ⟨rfl, ⟨⟨.slice (some ⟨b, 0, none⟩) n cap, (H1.out.set 2 _).set 3 _, ?_, H3.out, rfl⟩, HH.out.small, by have := HH.out.fits; have := HZ.out; omega, by have := HZ.out; omega, HH.out.gm⟩, ((Chg.refl _ _).set1 _ _).set1 _ _⟩
    rw [HZ.out]
    refine Vec.other (Vec.other e1 ?_ _) ?_ _ <;> (rintro k hk; cases hk; exact hbg)

set_option maxHeartbeats 400000 in
theorem Append_full (g m : Nat) (O : Nat → Prop) (size : Nat) (s : ByteArray) (safe : Nat) (x : ByteArray) (w : World) (h : Rl w g m O size s safe) (hx : (size : Int) - s.size < x.size) :
    Calls Tryd.prog 30 #[.pointer (some ⟨g, 0, none⟩), .string x] w fun e w' => e = .returned (.int .i64 5) ∧ ∃ k, w' = w.drewN k := by
  have HL := Lib.hid (Left_any _ _ _ _ _ _ _ h)
  have k1 := h.small
  have k2 := h.fits
  clear h
  go_enter Tryd.func30, Tryd.ntmps30
  go_wp2_with fail
  refine HL.out.mono ?_
  rintro e w' ⟨rfl, k, rfl⟩
  go_wp2_with fail
  go_returns
  exact ⟨rfl, _, rfl⟩
set_option maxHeartbeats 400000 in
theorem Append_down (g m : Nat) (O : Nat → Prop) (size : Nat) (s : ByteArray) (safe : Nat) (q : Pw) (x : ByteArray) (w : World) (h : Rl w g m O size s safe) (hm : Mn w m q) (hx : (x.size : Int) ≤ (size : Int) - s.size) (hq : q.ans = 4) :
    Calls Tryd.prog 30 #[.pointer (some ⟨g, 0, none⟩), .string x] w fun e w' => e = .returned (.int .i64 4) ∧ Mn w' m q.use ∧ Chg (· = m) w w' := by
  have HL := Lib.hid (Left_any _ _ _ _ _ _ _ h)
  have k1 := h.small
  have k2 := h.fits
  have HU := Lib.hid (fun n => Use_as m q _ (hm.drewN n) 4 _ hq rfl)
  obtain ⟨v, h1, h2, h3, rfl⟩ := h.ex
  obtain ⟨c0, -, -, -, -, -⟩ := rl_cells h1
  clear h h1 h2 h3 hm hq
  go_enter Tryd.func30, Tryd.ntmps30
  go_wp2_with fail
  refine HL.out.mono ?_
  rintro e w' ⟨rfl, k, rfl⟩
  go_wp2_with fail
  refine (HU.out k).mono ?_
  rintro e w1 ⟨rfl, hm1, hb1⟩
  go_wp2_with fail
  go_returns
  exact ⟨rfl, hm1, ((Chg.refl _ _).drewN k).trans hb1 (fun _ _ e => e)⟩
def MO (m : Nat) (O : Nat → Prop) : Nat → Prop := fun k => k = m ∨ O k
set_option maxHeartbeats 400000 in
theorem Append_ok (g m : Nat) (O : Nat → Prop) (size : Nat) (s : ByteArray) (safe : Nat) (q : Pw) (x : ByteArray) (w : World) (h : Rl w g m O size s safe) (hm : Mn w m q) (hx : (x.size : Int) ≤ (size : Int) - s.size) (hq : q.ans = 0) :
    Calls Tryd.prog 30 #[.pointer (some ⟨g, 0, none⟩), .string x] w fun e w' => e = .returned (.int .i64 0) ∧ (∃ O', Rl w' g m O' size (s ++ x) safe ∧ Fresh w O O') ∧ Mn w' m q.use ∧ Chg (MO m O) w w' := by
  have HL := Lib.hid (Left_any _ _ _ _ _ _ _ h)
  have k1 := h.small
  have k2 := h.fits
  have HU := Lib.hid (fun n => Use_as m q _ (hm.drewN n) 0 _ hq rfl)
  have H := Lib.hid h
  obtain ⟨v, h1, h2, h3, rfl⟩ := h.ex
  obtain ⟨c0, -, c2, -, -, -⟩ := rl_cells h1
  have H1 := Lib.hid h1
  have H2 := Lib.hid h2
  have H3 := Lib.hid h3
  have HM := Lib.hid hm.lt
  have hs0 := h.safe
  clear h h1 h2 h3 hm hq
  go_enter Tryd.func30, Tryd.ntmps30
  go_wp2_with fail
  refine HL.out.mono ?_
  rintro e w' ⟨rfl, k, rfl⟩
  go_wp2_with fail
  refine (HU.out k).mono ?_
  rintro e w1 ⟨rfl, hm1, hb1⟩
  have hb2 : Chg (· = m) w w1 := ((Chg.refl _ _).drewN k).trans hb1 (fun _ _ e => e)
  have N1 := Lib.hid (H1.out.keep hb2 H.out.gm)
  have N2 := Lib.hid (H2.out.keep hb2 (fun k hk e => (H3.out k hk).2 e))
  obtain ⟨c0, c1, c2, c3, f2, f3⟩ := rl_cells N1.out
  have B2 := Lib.hid hb2
  have M1 := Lib.hid hm1
  have HV := Lib.hid (fun k => Vec.lt (k := k) N2.out)
  clear hb1 hb2 hm1 HU HL
  go_wp2_with (with_reducible refine wpList_append_vec rfl (.tmp 25) (.tmp 26) 69 9 rfl 5 (.int .u8 0) 1 1 Tryd.underlying69 u8Info ?c1 ?c2 v s.size (byteCells s) ?c7 N2.out (.string x) ?c8 x.size (byteCells x) (Src.ofString _ Tryd.underlying9 x) ?c3 ?c4 ?_)
  case c1 => rfl
  case c2 => decide
  case c3 => unfold maxLen; omega
  case c4 => omega
  case c7 => rfl
  case c8 => rfl
  intro v' w2 hv hc hf
  have gv : ¬ VB v g := fun e => (H3.out g e).1 rfl
  have N3 := Lib.hid (N1.out.keep hc gv)
  obtain ⟨c0, c1, c2, c3, f2, f3⟩ := rl_cells N3.out
  have V3 := Lib.hid hv
  have C3 := Lib.hid hc
  have F3 := Lib.hid hf
  obtain ⟨A', c', rfl⟩ := hv.slice
  clear hv hc hf gv
  go_wp2_with fail
  go_returns
  have g1 : ∀ k, VB (.slice A' (s.size + x.size) c') k → k ≠ g ∧ k ≠ m := fun k hk => by
    rcases F3.out k hk with h | h
    · exact H3.out k h
    · have := B2.out.size; have := N1.out.lt; have := M1.out.lt; omega
  have hsz : (s ++ x).size = s.size + x.size := by simp
  refine ⟨rfl, ⟨_, ⟨⟨_, N3.out.set 2 _, ?_, g1, rfl⟩, H.out.small, by omega, by omega, H.out.gm⟩, ?_⟩, (M1.out.keep C3.out (fun e => (H3.out m e).2 rfl)).keep ((Chg.refl (· = g) _).set1 _ _) (fun e => H.out.gm e.symm), ?_⟩
  · rw [hsz, byteCells_cat]
    exact V3.out.other (fun k hk => (g1 k hk).1) _
  · rintro k (rfl | hk)
    · exact Or.inl (Or.inl rfl)
    · rcases F3.out k hk with h | h
      · exact Or.inl (Or.inr h)
      · exact Or.inr (by have := B2.out.size; omega)
  · refine ((B2.out.mono (T := MO m _) (fun _ _ e => Or.inl e)).trans (C3.out.mono (T := MO m (fun k => k = g ∨ VB v k)) (fun _ _ e => Or.inr (Or.inr e))) (fun _ _ e => e)).setCell ?_ _
    exact fun _ => Or.inr (Or.inl rfl)
end Go.Proofs.YtaacinhmgmmcaaaDoor.Rl
