/- Texts of ours, joined. -/
import Derived.Test.YtmnfoafpjmlbfaaGreatDoorVec
import Derived.Test.YtmnfoafpjmlbfaaGreatDoorDyP
import Derived.Test.YtmnfoafpjmlbfaaGreatDoorAid

-- joined
section
namespace Go.Proofs.YtmnfoafpjmlbfaaGreatDoor.Rl
open Go.ChangeShapes Go.WideShapes Go.ChangeAt Go.RowKit Go.PlainAid Aid Mn
set_option linter.unusedVariables false
set_option linter.unusedSimpArgs false

def rlRow (m size : Nat) (v : Value) (safe : Nat) : Array Value := #[.pointer (some ⟨m, 0, none⟩), .int .i64 size, v, .int .i64 safe]
/-- Bytes that lie in the blocks of O, the head in block g, on the power in block m. -/
structure Rl (w : World) (g m : Nat) (O : Nat → Prop) (size : Nat) (s : ByteArray) (safe : Nat) : Prop where
  ex : ∃ v, Blk w g 145 (rlRow m size v safe) ∧ Vec w 5 1 v s.size (byteCells s) ∧ (∀ k, VB v k → k ≠ g ∧ k ≠ m) ∧ O = fun k => k = g ∨ VB v k
  small : size ≤ 262144
  fits : s.size ≤ size
  safe : safe ≤ s.size
  gm : g ≠ m
section
variable {w w' : World} {g m size safe : Nat} {O S : Nat → Prop} {s : ByteArray}
theorem Rl.keep (h : Rl w g m O size s safe) (hb : Chg S w w') (hS : ∀ k, O k → ¬ S k) : Rl w' g m O size s safe := by
  obtain ⟨v, h1, h2, h3, rfl⟩ := h.ex
  exact ⟨⟨v, h1.keep hb (hS _ (Or.inl rfl)), h2.keep hb (fun k hk => hS _ (Or.inr hk)), h3, rfl⟩, h.small, h.fits, h.safe, h.gm⟩
theorem Rl.keepB (h : Rl w g m O size s safe) (hb : Below w.heap.size w w') : Rl w' g m O size s safe := h.keep (S := fun _ => False) (Chg.of_below hb) (fun _ _ => id)
theorem Rl.lt (h : Rl w g m O size s safe) {k : Nat} (hk : O k) : k < w.heap.size := by
  obtain ⟨v, h1, h2, h3, rfl⟩ := h.ex
  rcases hk with rfl | hk
  · exact h1.lt
  · exact h2.lt hk
theorem Rl.head (h : Rl w g m O size s safe) : O g := by
  obtain ⟨v, h1, h2, h3, rfl⟩ := h.ex
  exact Or.inl rfl
theorem Rl.notm (h : Rl w g m O size s safe) : ¬ O m := by
  obtain ⟨v, h1, h2, h3, rfl⟩ := h.ex
  rintro (e | e)
  · exact h.gm e.symm
  · exact (h3 _ e).2 rfl
theorem Rl.pow (h : Rl w g m O size s safe) (hb : Chg (· = m) w w') : Rl w' g m O size s safe := h.keep hb (fun k hk e => h.notm (e ▸ hk))
end
theorem rl_cells {w : World} {g m size safe : Nat} {v : Value} (h : Blk w g 145 (rlRow m size v safe)) :
    w.cell? ⟨g, 0, none⟩ = some (.pointer (some ⟨m, 0, none⟩)) ∧ w.cell? ⟨g, 1, none⟩ = some (.int .i64 size) ∧ w.cell? ⟨g, 2, none⟩ = some v ∧ w.cell? ⟨g, 3, none⟩ = some (.int .i64 safe) ∧ w.frozen? ⟨g, 2, none⟩ = false ∧ w.frozen? ⟨g, 3, none⟩ = false :=
  ⟨h.cell 0, h.cell 1, h.cell 2, h.cell 3, h.free 2, h.free 3⟩
theorem u8Info : (Tryz.prog.info? 5).map (fun i => (i.zero, i.size, i.bytes)) = some (some (.int .u8 0), 1, 1) := by kernel_rfl

/-- The nearest room. -/
def nearR (n : Int) : Nat := (min (max n 0) 262144).toNat
theorem nearR_le (n : Int) : nearR n ≤ 262144 := by unfold nearR; omega
set_option maxHeartbeats 400000 in
theorem New_any (m : Nat) (n : Int) (w : World) (hm : m < w.heap.size) :
    Calls Tryz.prog 32 #[.pointer (some ⟨m, 0, none⟩), .int .i64 n] w fun e w' => e = .returned (.pointer (some ⟨w.heap.size, 0, none⟩)) ∧ (∃ O, Rl w' w.heap.size m O (nearR n) ⟨#[]⟩ 0 ∧ Fresh w (fun _ => False) O) ∧ Below w.heap.size w w' := by
  have hn := nearR_le n
  have e0 : (nearR n : Int) = if n < 0 then 0 else if 262144 < n then 262144 else n := by unfold nearR; split <;> (try split) <;> omega
  have key : ∀ (x : Int), x = (nearR n : Int) → ∃ O, Rl (w.alloc (.cells #[.pointer (some ⟨m, 0, none⟩), .int .i64 x, .slice none 0 0, .int .i64 0] 145)) w.heap.size m O (nearR n) ⟨#[]⟩ 0 ∧ Fresh w (fun _ => False) O := by
    rintro x rfl
    refine ⟨_, ⟨⟨.slice none 0 0, Blk.new _ _ _, Vec.nil _ _ _, (fun k hk => by cases hk), rfl⟩, hn, Nat.zero_le _, Nat.zero_le _, by omega⟩, ?_⟩
    rintro j (rfl | h)
    · exact Or.inr (Nat.le_refl _)
    · cases h
  have KEY := Lib.hid key
  have E0 := Lib.hid e0
  clear key hn e0
  go_enter Tryz.func32, Tryz.ntmps32
  go_wp2_with fail
  all_goals
    go_returns
    exact ⟨rfl, KEY.out _ (by rw [E0.out]; split <;> (try split) <;> omega), blA (Below.refl _ _) _⟩

set_option maxHeartbeats 400000 in
theorem Len_any (g m : Nat) (O : Nat → Prop) (size : Nat) (s : ByteArray) (safe : Nat) (w : World) (h : Rl w g m O size s safe) :
    Calls Tryz.prog 36 #[.pointer (some ⟨g, 0, none⟩)] w fun e w' => e = .returned (.int .i64 s.size) ∧ w = w' := by
  obtain ⟨v, h1, h2, h3, rfl⟩ := h.ex
  obtain ⟨c0, c1, c2, c3, f2, f3⟩ := rl_cells h1
  have hf := h2.forms
  clear h h1 h2 h3
  rcases hf with ⟨rfl, hz⟩ | ⟨b, cap, rfl, hb, hc, hm⟩
  · rw [hz]
    clear hz
    go_enter Tryz.func36, Tryz.ntmps36
    go_wp2_with fail
    go_returns
    exact ⟨rfl, rfl⟩
  · go_enter Tryz.func36, Tryz.ntmps36
    go_wp2_with fail
    go_returns
    exact ⟨rfl, rfl⟩
set_option maxHeartbeats 400000 in
theorem Safe_any (g m : Nat) (O : Nat → Prop) (size : Nat) (s : ByteArray) (safe : Nat) (w : World) (h : Rl w g m O size s safe) :
    Calls Tryz.prog 102 #[.pointer (some ⟨g, 0, none⟩)] w fun e w' => e = .returned (.int .i64 safe) ∧ w = w' := by
  obtain ⟨v, h1, h2, h3, rfl⟩ := h.ex
  obtain ⟨c0, c1, c2, c3, f2, f3⟩ := rl_cells h1
  clear h h1 h2 h3
  go_enter Tryz.func102, Tryz.ntmps102
  go_wp2_with fail
  go_returns
  exact ⟨rfl, rfl⟩
set_option maxHeartbeats 400000 in
theorem Left_any (g m : Nat) (O : Nat → Prop) (size : Nat) (s : ByteArray) (safe : Nat) (w : World) (h : Rl w g m O size s safe) :
    Calls Tryz.prog 76 #[.pointer (some ⟨g, 0, none⟩)] w fun e w' => e = .returned (.int .i64 ((size : Int) - (s.size : Int))) ∧ ∃ k, w' = w.drewN k := by
  obtain ⟨v, h1, h2, h3, rfl⟩ := h.ex
  obtain ⟨c0, c1, c2, c3, f2, f3⟩ := rl_cells h1
  have hf := h2.forms
  have k1 := h.small
  have k2 := h.fits
  clear h h1 h2 h3
  rcases hf with ⟨rfl, hz⟩ | ⟨b, cap, rfl, hb, hc, hm⟩
  · rw [hz]
    clear hz k2
    go_enter Tryz.func76, Tryz.ntmps76
    go_wp2_with fail
    go_quiet (fail)
    go_wp2_with fail
    go_returns
    exact ⟨by simp, _, rfl⟩
  · go_enter Tryz.func76, Tryz.ntmps76
    go_wp2_with fail
    go_quiet (fail)
    go_wp2_with fail
    go_returns
    exact ⟨rfl, _, rfl⟩
def readV (q : Pw) (s : ByteArray) : Value := if q.on then .tuple #[.string s, .int .i64 0] else .tuple #[.string ⟨#[]⟩, .int .i64 4]
set_option maxRecDepth 100000 in
set_option maxHeartbeats 400000 in
theorem Read_any (g m : Nat) (O : Nat → Prop) (size : Nat) (s : ByteArray) (safe : Nat) (q : Pw) (w : World) (h : Rl w g m O size s safe) (hm : Mn w m q) :
    Calls Tryz.prog 66 #[.pointer (some ⟨g, 0, none⟩)] w fun e w' => e = .returned (readV q s) ∧ w = w' := by
  obtain ⟨v, h1, h2, h3, rfl⟩ := h.ex
  obtain ⟨c0, c1, c2, c3, f2, f3⟩ := rl_cells h1
  have hcv := h2.conv (P := Tryz.prog) Tryz.underlying143 Tryz.underlying5 Tryz.underlying9
  have hf := h2.forms
  have ho := Lib.hid (IsOn_any m q w hm)
  unfold readV
  clear h h1 h2 h3 hm
  cases hq : q.on <;> rw [hq] at ho
  · clear hq hcv hf
    go_enter Tryz.func66, Tryz.ntmps66
    go_wp2_with fail
    refine ho.out.mono ?_
    rintro e w' ⟨rfl, rfl⟩
    go_wp2_with fail
    go_returns
    exact ⟨rfl, rfl⟩
  · clear hq
    go_enter Tryz.func66, Tryz.ntmps66
    go_wp2_with fail
    refine ho.out.mono ?_
    rintro e w' ⟨rfl, rfl⟩
    rcases hf with ⟨rfl, hz⟩ | ⟨b, cap, rfl, hb, hc, hm⟩
    · go_wp2_with fail
      go_returns
      exact ⟨rfl, rfl⟩
    · go_wp2_with fail
      go_returns
      exact ⟨rfl, rfl⟩
set_option maxHeartbeats 400000 in
theorem cut_any (g m : Nat) (O : Nat → Prop) (size : Nat) (s : ByteArray) (safe n : Nat) (w : World) (h : Rl w g m O size s safe) (hn : n ≤ s.size) :
    Calls Tryz.prog 104 #[.pointer (some ⟨g, 0, none⟩), .int .i64 n] w fun e w' => e = .returned (.tuple #[]) ∧ Rl w' g m O size (s.extract 0 n) n ∧ Chg (· = g) w w' := by
  obtain ⟨v, h1, h2, h3, rfl⟩ := h.ex
  obtain ⟨c0, c1, c2, c3, f2, f3⟩ := rl_cells h1
  have hz : (s.extract 0 n).size = n := by simp; omega
  rcases h2.forms with ⟨rfl, hz0⟩ | ⟨b, cap, rfl, hb, hc, hm⟩
  · obtain rfl : n = 0 := by omega
    have HH := Lib.hid h
    have H1 := Lib.hid h1
    have HZ := Lib.hid hz
    have HZ0 := Lib.hid hz0
    clear h h1 h2 h3 hn hz hz0
    go_enter Tryz.func104, Tryz.ntmps104
    go_wp2_with fail
    go_returns
    refine ⟨rfl, ⟨⟨.slice none 0 0, (H1.out.set 2 _).set 3 _, ?_, (fun k hk => by cases hk), rfl⟩, HH.out.small, by have := HZ.out; omega, by have := HZ.out; omega, HH.out.gm⟩, ((Chg.refl _ _).set1 _ _).set1 _ _⟩
    rw [HZ.out, show byteCells (s.extract 0 0) = [] from List.eq_nil_of_length_eq_zero (by rw [byteCells_length]; exact HZ.out)]
    exact Vec.nil _ _ _
  · have HH := Lib.hid h
    have H1 := Lib.hid h1
    have H2 := Lib.hid h2
    have H3 := Lib.hid h3
    have HZ := Lib.hid hz
    have hnc : n ≤ cap := by omega
    unfold maxLen at hm
    clear h h1 h2 h3 hz
    go_enter Tryz.func104, Tryz.ntmps104
    go_wp2_with fail
    go_returns
    have e1 := H2.out.cut hn
    rw [Nat.mul_one, byteCells_take] at e1
    have hbg := (H3.out b rfl).1
    refine ⟨rfl, ⟨⟨.slice (some ⟨b, 0, none⟩) n cap, (H1.out.set 2 _).set 3 _, ?_, H3.out, rfl⟩, HH.out.small, by have := HH.out.fits; have := HZ.out; omega, by have := HZ.out; omega, HH.out.gm⟩, ((Chg.refl _ _).set1 _ _).set1 _ _⟩
    rw [HZ.out]
    refine Vec.other (Vec.other e1 ?_ _) ?_ _ <;> (rintro k hk; cases hk; exact hbg)

set_option maxHeartbeats 400000 in
theorem Append_full (g m : Nat) (O : Nat → Prop) (size : Nat) (s : ByteArray) (safe : Nat) (x : ByteArray) (w : World) (h : Rl w g m O size s safe) (hx : (size : Int) - s.size < x.size) :
    Calls Tryz.prog 37 #[.pointer (some ⟨g, 0, none⟩), .string x] w fun e w' => e = .returned (.int .i64 5) ∧ ∃ k, w' = w.drewN k := by
  have HL := Lib.hid (Left_any _ _ _ _ _ _ _ h)
  have k1 := h.small
  have k2 := h.fits
  clear h
  go_enter Tryz.func37, Tryz.ntmps37
  go_wp2_with fail
  refine HL.out.mono ?_
  rintro e w' ⟨rfl, k, rfl⟩
  go_wp2_with fail
  go_returns
  exact ⟨rfl, _, rfl⟩
set_option maxHeartbeats 400000 in
theorem Append_down (g m : Nat) (O : Nat → Prop) (size : Nat) (s : ByteArray) (safe : Nat) (q : Pw) (x : ByteArray) (w : World) (h : Rl w g m O size s safe) (hm : Mn w m q) (hx : (x.size : Int) ≤ (size : Int) - s.size) (hq : q.ans = 4) :
    Calls Tryz.prog 37 #[.pointer (some ⟨g, 0, none⟩), .string x] w fun e w' => e = .returned (.int .i64 4) ∧ Mn w' m q.use ∧ Chg (· = m) w w' := by
  have HL := Lib.hid (Left_any _ _ _ _ _ _ _ h)
  have k1 := h.small
  have k2 := h.fits
  have HU := Lib.hid (fun n => Use_as m q _ (hm.drewN n) 4 _ hq rfl)
  obtain ⟨v, h1, h2, h3, rfl⟩ := h.ex
  obtain ⟨c0, -, -, -, -, -⟩ := rl_cells h1
  clear h h1 h2 h3 hm hq
  go_enter Tryz.func37, Tryz.ntmps37
  go_wp2_with fail
  refine HL.out.mono ?_
  rintro e w' ⟨rfl, k, rfl⟩
  go_wp2_with fail
  refine (HU.out k).mono ?_
  rintro e w1 ⟨rfl, hm1, hb1⟩
  go_wp2_with fail
  go_returns
  exact ⟨rfl, hm1, ((Chg.refl _ _).drewN k).trans hb1 (fun _ _ e => e)⟩
def MO (m : Nat) (O : Nat → Prop) : Nat → Prop := fun k => k = m ∨ O k
set_option maxHeartbeats 400000 in
theorem Append_ok (g m : Nat) (O : Nat → Prop) (size : Nat) (s : ByteArray) (safe : Nat) (q : Pw) (x : ByteArray) (w : World) (h : Rl w g m O size s safe) (hm : Mn w m q) (hx : (x.size : Int) ≤ (size : Int) - s.size) (hq : q.ans = 0) :
    Calls Tryz.prog 37 #[.pointer (some ⟨g, 0, none⟩), .string x] w fun e w' => e = .returned (.int .i64 0) ∧ (∃ O', Rl w' g m O' size (s ++ x) safe ∧ Fresh w O O') ∧ Mn w' m q.use ∧ Chg (MO m O) w w' := by
  have HL := Lib.hid (Left_any _ _ _ _ _ _ _ h)
  have k1 := h.small
  have k2 := h.fits
  have HU := Lib.hid (fun n => Use_as m q _ (hm.drewN n) 0 _ hq rfl)
  have H := Lib.hid h
  obtain ⟨v, h1, h2, h3, rfl⟩ := h.ex
  obtain ⟨c0, -, c2, -, -, -⟩ := rl_cells h1
  have H1 := Lib.hid h1
  have H2 := Lib.hid h2
  have H3 := Lib.hid h3
  have HM := Lib.hid hm.lt
  have hs0 := h.safe
  clear h h1 h2 h3 hm hq
  go_enter Tryz.func37, Tryz.ntmps37
  go_wp2_with fail
  refine HL.out.mono ?_
  rintro e w' ⟨rfl, k, rfl⟩
  go_wp2_with fail
  refine (HU.out k).mono ?_
  rintro e w1 ⟨rfl, hm1, hb1⟩
  have hb2 : Chg (· = m) w w1 := ((Chg.refl _ _).drewN k).trans hb1 (fun _ _ e => e)
  have N1 := Lib.hid (H1.out.keep hb2 H.out.gm)
  have N2 := Lib.hid (H2.out.keep hb2 (fun k hk e => (H3.out k hk).2 e))
  obtain ⟨c0, c1, c2, c3, f2, f3⟩ := rl_cells N1.out
  have B2 := Lib.hid hb2
  have M1 := Lib.hid hm1
  have HV := Lib.hid (fun k => Vec.lt (k := k) N2.out)
  clear hb1 hb2 hm1 HU HL
  go_wp2_with (with_reducible refine wpList_append_vec rfl (.tmp 25) (.tmp 26) 143 9 rfl 5 (.int .u8 0) 1 1 Tryz.underlying143 u8Info ?c1 ?c2 v s.size (byteCells s) ?c7 N2.out (.string x) ?c8 x.size (byteCells x) (Src.ofString _ Tryz.underlying9 x) ?c3 ?c4 ?_)
  case c1 => rfl
  case c2 => decide
  case c3 => unfold maxLen; omega
  case c4 => omega
  case c7 => rfl
  case c8 => rfl
  intro v' w2 hv hc hf
  have gv : ¬ VB v g := fun e => (H3.out g e).1 rfl
  have N3 := Lib.hid (N1.out.keep hc gv)
  obtain ⟨c0, c1, c2, c3, f2, f3⟩ := rl_cells N3.out
  have V3 := Lib.hid hv
  have C3 := Lib.hid hc
  have F3 := Lib.hid hf
  obtain ⟨A', c', rfl⟩ := hv.slice
  clear hv hc hf gv
  go_wp2_with fail
  go_returns
  have g1 : ∀ k, VB (.slice A' (s.size + x.size) c') k → k ≠ g ∧ k ≠ m := fun k hk => by
    rcases F3.out k hk with h | h
    · exact H3.out k h
    · have := B2.out.size; have := N1.out.lt; have := M1.out.lt; omega
  have hsz : (s ++ x).size = s.size + x.size := by simp
  refine ⟨rfl, ⟨_, ⟨⟨_, N3.out.set 2 _, ?_, g1, rfl⟩, H.out.small, by omega, by omega, H.out.gm⟩, ?_⟩, (M1.out.keep C3.out (fun e => (H3.out m e).2 rfl)).keep ((Chg.refl (· = g) _).set1 _ _) (fun e => H.out.gm e.symm), ?_⟩
  · rw [hsz, byteCells_cat]
    exact V3.out.other (fun k hk => (g1 k hk).1) _
  · rintro k (rfl | hk)
    · exact Or.inl (Or.inl rfl)
    · rcases F3.out k hk with h | h
      · exact Or.inl (Or.inr h)
      · exact Or.inr (by have := B2.out.size; omega)
  · refine ((B2.out.mono (T := MO m _) (fun _ _ e => Or.inl e)).trans (C3.out.mono (T := MO m (fun k => k = g ∨ VB v k)) (fun _ _ e => Or.inr (Or.inr e))) (fun _ _ e => e)).setCell ?_ _
    exact fun _ => Or.inr (Or.inl rfl)
end Go.Proofs.YtmnfoafpjmlbfaaGreatDoor.Rl
end

-- joined
section
namespace Go.Proofs.YtmnfoafpjmlbfaaGreatDoor.Mn
open Go.ChangeShapes Go.WideShapes Go.ChangeAt Go.RowKit Go.PlainAid Aid
set_option linter.unusedVariables false
set_option linter.unusedSimpArgs false

/-! The document's own answer. -/
def Pw.did (p : Pw) (act n : Int) : Pw := if act = 1 then p.use else if act = 2 then p.lay (if n < 0 then -1 else n) else if act = 3 then p.off else if act = 4 then p.come else p
def Pw.said (p : Pw) (act : Int) : Int := if act = 1 then p.ans else 0

end Go.Proofs.YtmnfoafpjmlbfaaGreatDoor.Mn
end

-- joined
section
namespace Go.Proofs.YtmnfoafpjmlbfaaGreatDoor.Rl
open Go.ChangeShapes Go.WideShapes Go.ChangeAt Go.RowKit Go.PlainAid Aid Mn
set_option linter.unusedVariables false
set_option linter.unusedSimpArgs false

theorem extract_all (s : ByteArray) : s.extract 0 s.size = s := by
  apply ByteArray.ext
  simp [ByteArray.data_extract]
section
variable (g m : Nat) (O : Nat → Prop) (size : Nat) (s : ByteArray) (safe : Nat) (q : Pw) (w : World)
set_option maxRecDepth 100000 in
set_option maxHeartbeats 400000 in
theorem Sync_down (h : Rl w g m O size s safe) (hm : Mn w m q) (hq : q.ans = 4) :
    Calls Tryz.prog 127 #[.pointer (some ⟨g, 0, none⟩)] w fun e w' => e = .returned (.int .i64 4) ∧ Mn w' m q.use ∧ Chg (· = m) w w' := by
  have HU := Lib.hid (Use_as m q _ hm 4 _ hq rfl)
  obtain ⟨v, h1, h2, h3, rfl⟩ := h.ex
  obtain ⟨c0, -, -, -, -, -⟩ := rl_cells h1
  clear h h1 h2 h3 hm hq
  go_enter Tryz.func127, Tryz.ntmps127
  go_wp2_with fail
  refine HU.out.mono ?_
  rintro e w1 ⟨rfl, hm1, hb1⟩
  go_wp2_with fail
  go_returns
  exact ⟨rfl, hm1, hb1⟩
set_option maxRecDepth 100000 in
set_option maxHeartbeats 400000 in
theorem Sync_ok (h : Rl w g m O size s safe) (hm : Mn w m q) (hq : q.ans = 0) :
    Calls Tryz.prog 127 #[.pointer (some ⟨g, 0, none⟩)] w fun e w' => e = .returned (.int .i64 0) ∧ Rl w' g m O size s s.size ∧ Mn w' m q.use ∧ Chg (MO m O) w w' := by
  have HU := Lib.hid (Use_as m q _ hm 0 _ hq rfl)
  have H := Lib.hid h
  obtain ⟨v, h1, h2, h3, rfl⟩ := h.ex
  obtain ⟨c0, -, c2, -, -, -⟩ := rl_cells h1
  have H1 := Lib.hid h1
  obtain ⟨A, c, rfl⟩ := h2.slice
  clear h h1 h2 h3 hm hq
  go_enter Tryz.func127, Tryz.ntmps127
  go_wp2_with fail
  refine HU.out.mono ?_
  rintro e w1 ⟨rfl, hm1, hb1⟩
  have N0 := Lib.hid (H.out.pow hb1)
  have N1 := Lib.hid (H1.out.keep hb1 H.out.gm)
  have M1 := Lib.hid hm1
  have B1 := Lib.hid hb1
  obtain ⟨c0, c1, c2, c3, f2, f3⟩ := rl_cells N1.out
  clear hm1 hb1 HU
  go_wp2_with fail
  refine (cut_any _ _ _ _ _ _ _ _ N0.out (Nat.le_refl _)).mono ?_
  rintro e w2 ⟨rfl, hr2, hb2⟩
  rw [extract_all] at hr2
  have R2 := Lib.hid hr2
  have B2 := Lib.hid hb2
  clear hr2 hb2
  go_wp2_with fail
  go_returns
  exact ⟨rfl, R2.out, M1.out.keep B2.out (fun e => H.out.gm e.symm), (B1.out.mono (T := MO m _) (fun _ _ e => Or.inl e)).trans (B2.out.mono (T := MO m _) (fun _ _ e => Or.inr (e ▸ H.out.head))) (fun _ _ e => e)⟩
def trimW (s : ByteArray) (n : Int) : Prop := n < 0 ∨ (s.size : Int) < n
set_option maxRecDepth 100000 in
set_option maxHeartbeats 400000 in
theorem Trim_arg (n : Int) (h : Rl w g m O size s safe) (hn : trimW s n) :
    Calls Tryz.prog 68 #[.pointer (some ⟨g, 0, none⟩), .int .i64 n] w fun e w' => e = .returned (.int .i64 1) ∧ w = w' := by
  obtain ⟨v, h1, h2, h3, rfl⟩ := h.ex
  obtain ⟨c0, -, c2, -, -, -⟩ := rl_cells h1
  obtain ⟨A, c, rfl⟩ := h2.slice
  clear h h1 h2 h3
  by_cases h0 : n < 0
  · clear hn
    go_enter Tryz.func68, Tryz.ntmps68
    go_wp2_with fail
    go_returns
    exact ⟨rfl, rfl⟩
  · have h1 : (s.size : Int) < n := hn.resolve_left h0
    have h0' : 0 ≤ n := by omega
    clear hn h0
    go_enter Tryz.func68, Tryz.ntmps68
    go_wp2_with fail
    go_returns
    exact ⟨rfl, rfl⟩
set_option maxRecDepth 100000 in
set_option maxHeartbeats 400000 in
theorem Trim_down (n : Nat) (h : Rl w g m O size s safe) (hm : Mn w m q) (hn : n ≤ s.size) (hq : q.ans = 4) :
    Calls Tryz.prog 68 #[.pointer (some ⟨g, 0, none⟩), .int .i64 n] w fun e w' => e = .returned (.int .i64 4) ∧ Mn w' m q.use ∧ Chg (· = m) w w' := by
  have HU := Lib.hid (Use_as m q _ hm 4 _ hq rfl)
  have k1 := h.small
  have k2 := h.fits
  obtain ⟨v, h1, h2, h3, rfl⟩ := h.ex
  obtain ⟨c0, -, c2, -, -, -⟩ := rl_cells h1
  obtain ⟨A, c, rfl⟩ := h2.slice
  clear h h1 h2 h3 hm hq
  go_enter Tryz.func68, Tryz.ntmps68
  go_wp2_with fail
  refine HU.out.mono ?_
  rintro e w1 ⟨rfl, hm1, hb1⟩
  go_wp2_with fail
  go_returns
  exact ⟨rfl, hm1, hb1⟩
set_option maxRecDepth 100000 in
set_option maxHeartbeats 400000 in
theorem Trim_ok (n : Nat) (h : Rl w g m O size s safe) (hm : Mn w m q) (hn : n ≤ s.size) (hq : q.ans = 0) :
    Calls Tryz.prog 68 #[.pointer (some ⟨g, 0, none⟩), .int .i64 n] w fun e w' => e = .returned (.int .i64 0) ∧ Rl w' g m O size (s.extract 0 n) n ∧ Mn w' m q.use ∧ Chg (MO m O) w w' := by
  have HU := Lib.hid (Use_as m q _ hm 0 _ hq rfl)
  have H := Lib.hid h
  have k1 := h.small
  have k2 := h.fits
  obtain ⟨v, h1, h2, h3, rfl⟩ := h.ex
  obtain ⟨c0, -, c2, -, -, -⟩ := rl_cells h1
  obtain ⟨A, c, rfl⟩ := h2.slice
  clear h h1 h2 h3 hm hq
  go_enter Tryz.func68, Tryz.ntmps68
  go_wp2_with fail
  refine HU.out.mono ?_
  rintro e w1 ⟨rfl, hm1, hb1⟩
  have N0 := Lib.hid (H.out.pow hb1)
  have M1 := Lib.hid hm1
  have B1 := Lib.hid hb1
  clear hm1 hb1 HU
  go_wp2_with fail
  refine (cut_any _ _ _ _ _ _ _ _ N0.out hn).mono ?_
  rintro e w2 ⟨rfl, hr2, hb2⟩
  have R2 := Lib.hid hr2
  have B2 := Lib.hid hb2
  clear hr2 hb2
  go_wp2_with fail
  go_returns
  exact ⟨rfl, R2.out, M1.out.keep B2.out (fun e => H.out.gm e.symm), (B1.out.mono (T := MO m _) (fun _ _ e => Or.inl e)).trans (B2.out.mono (T := MO m _) (fun _ _ e => Or.inr (e ▸ H.out.head))) (fun _ _ e => e)⟩

/-- How many of the n that aren't safe stay. -/
def stayK (keep : Int) (n : Nat) : Nat := ((IntKind.u64.wrap keep).tmod ((n : Int) + 1)).toNat
theorem stayK_eq (keep : Int) (n : Nat) : (IntKind.u64.wrap keep).tmod ((n : Int) + 1) = (stayK keep n : Int) := by
  have g0 : 0 ≤ IntKind.u64.wrap keep := by rw [IntKind.wrap_u64]; omega
  have a1 := Int.tmod_nonneg ((n : Int) + 1) g0
  unfold stayK; omega
theorem stayK_le (keep : Int) (n : Nat) : stayK keep n ≤ n := by
  have a2 := Int.tmod_lt_of_pos (IntKind.u64.wrap keep) (show (0 : Int) < (n : Int) + 1 by omega)
  have := stayK_eq keep n
  omega
end
end Go.Proofs.YtmnfoafpjmlbfaaGreatDoor.Rl
end

-- joined
section
namespace Go.Proofs.YtmnfoafpjmlbfaaGreatDoor.Aid
open Go.ChangeShapes Go.WideShapes Go.ChangeAt Go.RowKit Go.PlainAid
set_option linter.unusedVariables false
/-- A number of 64 bits. -/
def I64 (n : Int) : Prop := -9223372036854775808 ≤ n ∧ n ≤ 9223372036854775807
/-- A slice of structs of F numbers each that came in. -/
def IntRows (w : World) (A : Option Addr) (m F : Nat) (z : Nat → Nat → Int) : Prop :=
  m = 0 ∨ ∃ b o, A = some ⟨b, o, none⟩ ∧ b < w.heap.size ∧ (∀ i, i < m → ∀ j, j < F → w.cell? ⟨b, o + i * F + j, none⟩ = some (.int .i64 (z i j))) ∧ ∀ i, i < m → ∀ j, j < F → I64 (z i j)
theorem IntRows.at {w : World} {A : Option Addr} {m F : Nat} {z : Nat → Nat → Int} (h : IntRows w A m F z) (k : Nat) (hk : k < m) (w' : World) (hb : Below w.heap.size w w') :
    ∃ b o, A = some ⟨b, o, none⟩ ∧ b < w.heap.size ∧ (∀ j, j < F → w'.cell? ⟨b, o + k * F + j, none⟩ = some (.int .i64 (z k j))) ∧ ∀ j, j < F → I64 (z k j) := by
  rcases h with h | ⟨b, o, rfl, hl, hc, hz⟩
  · omega
  · exact ⟨b, o, rfl, hl, fun j hj => by rw [(bcell hb).1 _ _ hl]; exact hc k hk j hj, hz k hk⟩
end Go.Proofs.YtmnfoafpjmlbfaaGreatDoor.Aid
end

-- joined
section
namespace Go.Proofs.YtmnfoafpjmlbfaaGreatDoor.Aid
open Go.ChangeShapes Go.WideShapes Go.ChangeAt Go.RowKit Go.PlainAid
set_option linter.unusedVariables false
/-- What a cell may be. -/
inductive CK where
  | num
  | str
  | truth
def CK.ok : CK → Value → Prop
  | .num, v => ∃ n, v = .int .i64 n ∧ I64 n
  | .str, v => ∃ s : ByteArray, v = .string s ∧ s.size ≤ maxLen
  | .truth, v => ∃ b, v = .bool b
/-- A slice of structs that came in, of kinds ks cell by cell. -/
def CellRows (w : World) (A : Option Addr) (m : Nat) (ks : List CK) (c : Nat → Nat → Value) : Prop :=
  m = 0 ∨ ∃ b o, A = some ⟨b, o, none⟩ ∧ b < w.heap.size ∧ (∀ i, i < m → ∀ j, j < ks.length → w.cell? ⟨b, o + i * ks.length + j, none⟩ = some (c i j)) ∧ ∀ i, i < m → ∀ (j : Nat) (k : CK), ks[j]? = some k → k.ok (c i j)
theorem CellRows.at {w : World} {A : Option Addr} {m : Nat} {ks : List CK} {c : Nat → Nat → Value} (h : CellRows w A m ks c) (k : Nat) (hk : k < m) (w' : World) (hb : Below w.heap.size w w') :
    ∃ b o, A = some ⟨b, o, none⟩ ∧ b < w.heap.size ∧ (∀ j, j < ks.length → w'.cell? ⟨b, o + k * ks.length + j, none⟩ = some (c k j)) ∧ ∀ (j : Nat) (x : CK), ks[j]? = some x → x.ok (c k j) := by
  rcases h with h | ⟨b, o, rfl, hl, hc, hz⟩
  · omega
  · exact ⟨b, o, rfl, hl, fun j hj => by rw [(bcell hb).1 _ _ hl]; exact hc k hk j hj, hz k hk⟩
/-- A slice of strings that came in. -/
def StrRow (w : World) (A : Option Addr) (m : Nat) (S : Nat → ByteArray) : Prop :=
  m = 0 ∨ ∃ b o, A = some ⟨b, o, none⟩ ∧ b < w.heap.size ∧ ∀ i, i < m → w.cell? ⟨b, o + i, none⟩ = some (.string (S i)) ∧ (S i).size ≤ maxLen
theorem StrRow.at {w : World} {A : Option Addr} {m : Nat} {S : Nat → ByteArray} (h : StrRow w A m S) (k : Nat) (hk : k < m) (w' : World) (hb : Below w.heap.size w w') :
    ∃ b o, A = some ⟨b, o, none⟩ ∧ b < w.heap.size ∧ w'.cell? ⟨b, o + k, none⟩ = some (.string (S k)) ∧ (S k).size ≤ maxLen := by
  rcases h with h | ⟨b, o, rfl, hl, hc⟩
  · omega
  · exact ⟨b, o, rfl, hl, by rw [(bcell hb).1 _ _ hl]; exact (hc k hk).1, (hc k hk).2⟩
/-- A slice of numbers that came in. -/
def NumRow (w : World) (A : Option Addr) (m : Nat) (z : Nat → Int) : Prop :=
  m = 0 ∨ ∃ b o, A = some ⟨b, o, none⟩ ∧ b < w.heap.size ∧ ∀ i, i < m → w.cell? ⟨b, o + i, none⟩ = some (.int .i64 (z i)) ∧ I64 (z i)
theorem NumRow.at {w : World} {A : Option Addr} {m : Nat} {z : Nat → Int} (h : NumRow w A m z) (k : Nat) (hk : k < m) (w' : World) (hb : Below w.heap.size w w') :
    ∃ b o, A = some ⟨b, o, none⟩ ∧ b < w.heap.size ∧ w'.cell? ⟨b, o + k, none⟩ = some (.int .i64 (z k)) ∧ I64 (z k) := by
  rcases h with h | ⟨b, o, rfl, hl, hc⟩
  · omega
  · exact ⟨b, o, rfl, hl, by rw [(bcell hb).1 _ _ hl]; exact (hc k hk).1, (hc k hk).2⟩
end Go.Proofs.YtmnfoafpjmlbfaaGreatDoor.Aid
end
