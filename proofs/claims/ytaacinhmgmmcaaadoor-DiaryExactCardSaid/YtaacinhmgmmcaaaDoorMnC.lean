/- Texts of ours, joined. -/
import Derived.Test.YtaacinhmgmmcaaaDoorMnB
import Derived.Test.YtaacinhmgmmcaaaDoorRlB

-- joined
section
namespace Go.Proofs.YtaacinhmgmmcaaaDoor.Mn
open Go.ChangeShapes Go.WideShapes Go.ChangeAt Go.RowKit Go.PlainAid Aid
set_option linter.unusedVariables false
set_option linter.unusedSimpArgs false

/-! The document's own answer. -/
def Pw.did (p : Pw) (act n : Int) : Pw := if act = 1 then p.use else if act = 2 then p.lay (if n < 0 then -1 else n) else if act = 3 then p.off else if act = 4 then p.come else p
def Pw.said (p : Pw) (act : Int) : Int := if act = 1 then p.ans else 0

end Go.Proofs.YtaacinhmgmmcaaaDoor.Mn
end

-- joined
section
namespace Go.Proofs.YtaacinhmgmmcaaaDoor.Rl
open Go.ChangeShapes Go.WideShapes Go.ChangeAt Go.RowKit Go.PlainAid Aid Mn
set_option linter.unusedVariables false
set_option linter.unusedSimpArgs false

theorem extract_all (s : ByteArray) : s.extract 0 s.size = s := by
  apply ByteArray.ext
  simp [ByteArray.data_extract]
section
variable (g m : Nat) (O : Nat → Prop) (size : Nat) (s : ByteArray) (safe : Nat) (q : Pw) (w : World)
set_option maxRecDepth 100000 in
set_option maxHeartbeats 400000 in
theorem Sync_down (h : Rl w g m O size s safe) (hm : Mn w m q) (hq : q.ans = 4) :
    Calls Tryd.prog 37 #[.pointer (some ⟨g, 0, none⟩)] w fun e w' => e = .returned (.int .i64 4) ∧ Mn w' m q.use ∧ Chg (· = m) w w' := by
  have HU := Lib.hid (Use_as m q _ hm 4 _ hq rfl)
  obtain ⟨v, h1, h2, h3, rfl⟩ := h.ex
  obtain ⟨c0, -, -, -, -, -⟩ := rl_cells h1
  clear h h1 h2 h3 hm hq
  go_enter Tryd.func37, Tryd.ntmps37
  go_wp2_with fail
  refine HU.out.mono ?_
  rintro e w1 ⟨rfl, hm1, hb1⟩
  go_wp2_with fail
  go_returns
  exact ⟨rfl, hm1, hb1⟩
set_option maxRecDepth 100000 in
set_option maxHeartbeats 400000 in
theorem Sync_ok (h : Rl w g m O size s safe) (hm : Mn w m q) (hq : q.ans = 0) :
    Calls Tryd.prog 37 #[.pointer (some ⟨g, 0, none⟩)] w fun e w' => e = .returned (.int .i64 0) ∧ Rl w' g m O size s s.size ∧ Mn w' m q.use ∧ Chg (MO m O) w w' := by
  have HU := Lib.hid (Use_as m q _ hm 0 _ hq rfl)
  have H := Lib.hid h
  obtain ⟨v, h1, h2, h3, rfl⟩ := h.ex
  obtain ⟨c0, -, c2, -, -, -⟩ := rl_cells h1
  have H1 := Lib.hid h1
  obtain ⟨A, c, rfl⟩ := h2.slice
  clear h h1 h2 h3 hm hq
  go_enter Tryd.func37, Tryd.ntmps37
  go_wp2_with fail
  refine HU.out.mono ?_
  rintro e w1 ⟨rfl, hm1, hb1⟩
  have N0 := Lib.hid (H.out.pow hb1)
  have N1 := Lib.hid (H1.out.keep hb1 H.out.gm)
  have M1 := Lib.hid hm1
  have B1 := Lib.hid hb1
  obtain ⟨c0, c1, c2, c3, f2, f3⟩ := rl_cells N1.out
  clear hm1 hb1 HU
  go_wp2_with fail
  refine (cut_any _ _ _ _ _ _ _ _ N0.out (Nat.le_refl _)).mono ?_
  rintro e w2 ⟨rfl, hr2, hb2⟩
  rw [extract_all] at hr2
  have R2 := Lib.hid hr2
  have B2 := Lib.hid hb2
  clear hr2 hb2
  go_wp2_with fail
  go_returns
  exact ⟨rfl, R2.out, M1.out.keep B2.out (fun e => H.out.gm e.symm), (B1.out.mono (T := MO m _) (fun _ _ e => Or.inl e)).trans (B2.out.mono (T := MO m _) (fun _ _ e => Or.inr (e ▸ H.out.head))) (fun _ _ e => e)⟩
def trimW (s : ByteArray) (n : Int) : Prop := n < 0 ∨ (s.size : Int) < n
set_option maxRecDepth 100000 in
set_option maxHeartbeats 400000 in
theorem Trim_arg (n : Int) (h : Rl w g m O size s safe) (hn : trimW s n) :
    Calls Tryd.prog 26 #[.pointer (some ⟨g, 0, none⟩), .int .i64 n] w fun e w' => e = .returned (.int .i64 1) ∧ w = w' := by
  obtain ⟨v, h1, h2, h3, rfl⟩ := h.ex
  obtain ⟨c0, -, c2, -, -, -⟩ := rl_cells h1
  obtain ⟨A, c, rfl⟩ := h2.slice
  clear h h1 h2 h3
  by_cases h0 : n < 0
  · clear hn
    go_enter Tryd.func26, Tryd.ntmps26
    go_wp2_with fail
    go_returns
    exact ⟨rfl, rfl⟩
  · have h1 : (s.size : Int) < n := hn.resolve_left h0
    have h0' : 0 ≤ n := by omega
    clear hn h0
    go_enter Tryd.func26, Tryd.ntmps26
    go_wp2_with fail
    go_returns
    exact ⟨rfl, rfl⟩
set_option maxRecDepth 100000 in
set_option maxHeartbeats 400000 in
theorem Trim_down (n : Nat) (h : Rl w g m O size s safe) (hm : Mn w m q) (hn : n ≤ s.size) (hq : q.ans = 4) :
    Calls Tryd.prog 26 #[.pointer (some ⟨g, 0, none⟩), .int .i64 n] w fun e w' => e = .returned (.int .i64 4) ∧ Mn w' m q.use ∧ Chg (· = m) w w' := by
  have HU := Lib.hid (Use_as m q _ hm 4 _ hq rfl)
  have k1 := h.small
  have k2 := h.fits
  obtain ⟨v, h1, h2, h3, rfl⟩ := h.ex
  obtain ⟨c0, -, c2, -, -, -⟩ := rl_cells h1
  obtain ⟨A, c, rfl⟩ := h2.slice
  clear h h1 h2 h3 hm hq
  go_enter Tryd.func26, Tryd.ntmps26
  go_wp2_with fail
  refine HU.out.mono ?_
  rintro e w1 ⟨rfl, hm1, hb1⟩
  go_wp2_with fail
  go_returns
  exact ⟨rfl, hm1, hb1⟩
set_option maxRecDepth 100000 in
set_option maxHeartbeats 400000 in
theorem Trim_ok (n : Nat) (h : Rl w g m O size s safe) (hm : Mn w m q) (hn : n ≤ s.size) (hq : q.ans = 0) :
    Calls Tryd.prog 26 #[.pointer (some ⟨g, 0, none⟩), .int .i64 n] w fun e w' => e = .returned (.int .i64 0) ∧ Rl w' g m O size (s.extract 0 n) n ∧ Mn w' m q.use ∧ Chg (MO m O) w w' := by
  have HU := Lib.hid (Use_as m q _ hm 0 _ hq rfl)
  have H := Lib.hid h
  have k1 := h.small
  have k2 := h.fits
  obtain ⟨v, h1, h2, h3, rfl⟩ := h.ex
  obtain ⟨c0, -, c2, -, -, -⟩ := rl_cells h1
  obtain ⟨A, c, rfl⟩ := h2.slice
  clear h h1 h2 h3 hm hq
  go_enter Tryd.func26, Tryd.ntmps26
  go_wp2_with fail
  refine HU.out.mono ?_
  rintro e w1 ⟨rfl, hm1, hb1⟩
  have N0 := Lib.hid (H.out.pow hb1)
  have M1 := Lib.hid hm1
  have B1 := Lib.hid hb1
  clear hm1 hb1 HU
  go_wp2_with fail
  refine (cut_any _ _ _ _ _ _ _ _ N0.out hn).mono ?_
  rintro e w2 ⟨rfl, hr2, hb2⟩
  have R2 := Lib.hid hr2
  have B2 := Lib.hid hb2
  clear hr2 hb2
  go_wp2_with fail
  go_returns
  exact ⟨rfl, R2.out, M1.out.keep B2.out (fun e => H.out.gm e.symm), (B1.out.mono (T := MO m _) (fun _ _ e => Or.inl e)).trans (B2.out.mono (T := MO m _) (fun _ _ e => Or.inr (e ▸ H.out.head))) (fun _ _ e => e)⟩

/-- How many of the n that aren't safe stay. -/
def stayK (keep : Int) (n : Nat) : Nat := ((IntKind.u64.wrap keep).tmod ((n : Int) + 1)).toNat
theorem stayK_eq (keep : Int) (n : Nat) : (IntKind.u64.wrap keep).tmod ((n : Int) + 1) = (stayK keep n : Int) := by
  have g0 : 0 ≤ IntKind.u64.wrap keep := by rw [IntKind.wrap_u64]; omega
  have a1 := Int.tmod_nonneg ((n : Int) + 1) g0
  unfold stayK; omega
theorem stayK_le (keep : Int) (n : Nat) : stayK keep n ≤ n := by
  have a2 := Int.tmod_lt_of_pos (IntKind.u64.wrap keep) (show (0 : Int) < (n : Int) + 1 by omega)
  have := stayK_eq keep n
  omega
end
end Go.Proofs.YtaacinhmgmmcaaaDoor.Rl
end
