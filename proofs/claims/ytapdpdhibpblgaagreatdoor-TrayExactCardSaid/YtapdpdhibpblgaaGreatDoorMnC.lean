/- Texts of ours, joined. -/
import Derived.Test.YtapdpdhibpblgaaGreatDoorDyP
import Derived.Test.YtapdpdhibpblgaaGreatDoorArgs
import Derived.Test.YtapdpdhibpblgaaGreatDoorSep

-- joined
section
namespace Go.Proofs.YtapdpdhibpblgaaGreatDoor.Mn
open Go.ChangeShapes Go.WideShapes Go.ChangeAt Go.RowKit Go.PlainAid Aid
set_option linter.unusedVariables false
set_option linter.unusedSimpArgs false

/-! The document's own answer. -/
def Pw.did (p : Pw) (act n : Int) : Pw := if act = 1 then p.use else if act = 2 then p.lay (if n < 0 then -1 else n) else if act = 3 then p.off else if act = 4 then p.come else p
def Pw.said (p : Pw) (act : Int) : Int := if act = 1 then p.ans else 0

end Go.Proofs.YtapdpdhibpblgaaGreatDoor.Mn
end

-- joined
section
namespace Go.Proofs.YtapdpdhibpblgaaGreatDoor.Rl
open Go.ChangeShapes Go.WideShapes Go.ChangeAt Go.RowKit Go.PlainAid Aid Mn
set_option linter.unusedVariables false
set_option linter.unusedSimpArgs false

theorem extract_all (s : ByteArray) : s.extract 0 s.size = s := by
  apply ByteArray.ext
  simp [ByteArray.data_extract]
section
variable (g m : Nat) (O : Nat → Prop) (size : Nat) (s : ByteArray) (safe : Nat) (q : Pw) (w : World)
set_option maxRecDepth 100000 in
set_option maxHeartbeats 400000 in
theorem Sync_down (h : Rl w g m O size s safe) (hm : Mn w m q) (hq : q.ans = 4) :
    Calls Tryz.prog 120 #[.pointer (some ⟨g, 0, none⟩)] w fun e w' => e = .returned (.int .i64 4) ∧ Mn w' m q.use ∧ Chg (· = m) w w' := by
  have HU := Lib.hid (Use_as m q _ hm 4 _ hq rfl)
  obtain ⟨v, h1, h2, h3, rfl⟩ := h.ex
  obtain ⟨c0, -, -, -, -, -⟩ := rl_cells h1
  clear h h1 h2 h3 hm hq
  go_enter Tryz.func120, Tryz.ntmps120
  go_wp2_with fail
  refine HU.out.mono ?_
  rintro e w1 ⟨rfl, hm1, hb1⟩
  go_wp2_with fail
  go_returns
  exact ⟨rfl, hm1, hb1⟩
set_option maxRecDepth 100000 in
set_option maxHeartbeats 400000 in
theorem Sync_ok (h : Rl w g m O size s safe) (hm : Mn w m q) (hq : q.ans = 0) :
    Calls Tryz.prog 120 #[.pointer (some ⟨g, 0, none⟩)] w fun e w' => e = .returned (.int .i64 0) ∧ Rl w' g m O size s s.size ∧ Mn w' m q.use ∧ Chg (MO m O) w w' := by
  have HU := Lib.hid (Use_as m q _ hm 0 _ hq rfl)
  have H := Lib.hid h
  obtain ⟨v, h1, h2, h3, rfl⟩ := h.ex
  obtain ⟨c0, -, c2, -, -, -⟩ := rl_cells h1
  have H1 := Lib.hid h1
  obtain ⟨A, c, rfl⟩ := h2.slice
  clear h h1 h2 h3 hm hq
  go_enter Tryz.func120, Tryz.ntmps120
  go_wp2_with fail
  refine HU.out.mono ?_
  rintro e w1 ⟨rfl, hm1, hb1⟩
  have N0 := Lib.hid (H.out.pow hb1)
  have N1 := Lib.hid (H1.out.keep hb1 H.out.gm)
  have M1 := Lib.hid hm1
  have B1 := Lib.hid hb1
  obtain ⟨c0, c1, c2, c3, f2, f3⟩ := rl_cells N1.out
  clear hm1 hb1 HU
  go_wp2_with fail
  refine (cut_any _ _ _ _ _ _ _ _ N0.out (Nat.le_refl _)).mono ?_
  rintro e w2 ⟨rfl, hr2, hb2⟩
  rw [extract_all] at hr2
  have R2 := Lib.hid hr2
  have B2 := Lib.hid hb2
  clear hr2 hb2
  go_wp2_with fail
  go_returns
  exact ⟨rfl, R2.out, M1.out.keep B2.out (fun e => H.out.gm e.symm), (B1.out.mono (T := MO m _) (fun _ _ e => Or.inl e)).trans (B2.out.mono (T := MO m _) (fun _ _ e => Or.inr (e ▸ H.out.head))) (fun _ _ e => e)⟩
def trimW (s : ByteArray) (n : Int) : Prop := n < 0 ∨ (s.size : Int) < n
set_option maxRecDepth 100000 in
set_option maxHeartbeats 400000 in
theorem Trim_arg (n : Int) (h : Rl w g m O size s safe) (hn : trimW s n) :
    Calls Tryz.prog 59 #[.pointer (some ⟨g, 0, none⟩), .int .i64 n] w fun e w' => e = .returned (.int .i64 1) ∧ w = w' := by
  obtain ⟨v, h1, h2, h3, rfl⟩ := h.ex
  obtain ⟨c0, -, c2, -, -, -⟩ := rl_cells h1
  obtain ⟨A, c, rfl⟩ := h2.slice
  clear h h1 h2 h3
  by_cases h0 : n < 0
  · clear hn
    go_enter Tryz.func59, Tryz.ntmps59
    go_wp2_with fail
    go_returns
    exact ⟨rfl, rfl⟩
  · have h1 : (s.size : Int) < n := hn.resolve_left h0
    have h0' : 0 ≤ n := by omega
    clear hn h0
    go_enter Tryz.func59, Tryz.ntmps59
    go_wp2_with fail
    go_returns
    exact ⟨rfl, rfl⟩
set_option maxRecDepth 100000 in
set_option maxHeartbeats 400000 in
theorem Trim_down (n : Nat) (h : Rl w g m O size s safe) (hm : Mn w m q) (hn : n ≤ s.size) (hq : q.ans = 4) :
    Calls Tryz.prog 59 #[.pointer (some ⟨g, 0, none⟩), .int .i64 n] w fun e w' => e = .returned (.int .i64 4) ∧ Mn w' m q.use ∧ Chg (· = m) w w' := by
  have HU := Lib.hid (Use_as m q _ hm 4 _ hq rfl)
  have k1 := h.small
  have k2 := h.fits
  obtain ⟨v, h1, h2, h3, rfl⟩ := h.ex
  obtain ⟨c0, -, c2, -, -, -⟩ := rl_cells h1
  obtain ⟨A, c, rfl⟩ := h2.slice
  clear h h1 h2 h3 hm hq
  go_enter Tryz.func59, Tryz.ntmps59
  go_wp2_with fail
  refine HU.out.mono ?_
  rintro e w1 ⟨rfl, hm1, hb1⟩
  go_wp2_with fail
  go_returns
  exact ⟨rfl, hm1, hb1⟩
set_option maxRecDepth 100000 in
set_option maxHeartbeats 400000 in
theorem Trim_ok (n : Nat) (h : Rl w g m O size s safe) (hm : Mn w m q) (hn : n ≤ s.size) (hq : q.ans = 0) :
    Calls Tryz.prog 59 #[.pointer (some ⟨g, 0, none⟩), .int .i64 n] w fun e w' => e = .returned (.int .i64 0) ∧ Rl w' g m O size (s.extract 0 n) n ∧ Mn w' m q.use ∧ Chg (MO m O) w w' := by
  have HU := Lib.hid (Use_as m q _ hm 0 _ hq rfl)
  have H := Lib.hid h
  have k1 := h.small
  have k2 := h.fits
  obtain ⟨v, h1, h2, h3, rfl⟩ := h.ex
  obtain ⟨c0, -, c2, -, -, -⟩ := rl_cells h1
  obtain ⟨A, c, rfl⟩ := h2.slice
  clear h h1 h2 h3 hm hq
  go_enter Tryz.func59, Tryz.ntmps59
  go_wp2_with fail
  refine HU.out.mono ?_
  rintro e w1 ⟨rfl, hm1, hb1⟩
  have N0 := Lib.hid (H.out.pow hb1)
  have M1 := Lib.hid hm1
  have B1 := Lib.hid hb1
  clear hm1 hb1 HU
  go_wp2_with fail
  refine (cut_any _ _ _ _ _ _ _ _ N0.out hn).mono ?_
  rintro e w2 ⟨rfl, hr2, hb2⟩
  have R2 := Lib.hid hr2
  have B2 := Lib.hid hb2
  clear hr2 hb2
  go_wp2_with fail
  go_returns
  exact ⟨rfl, R2.out, M1.out.keep B2.out (fun e => H.out.gm e.symm), (B1.out.mono (T := MO m _) (fun _ _ e => Or.inl e)).trans (B2.out.mono (T := MO m _) (fun _ _ e => Or.inr (e ▸ H.out.head))) (fun _ _ e => e)⟩

/-- How many of the n that aren't safe stay. -/
def stayK (keep : Int) (n : Nat) : Nat := ((IntKind.u64.wrap keep).tmod ((n : Int) + 1)).toNat
theorem stayK_eq (keep : Int) (n : Nat) : (IntKind.u64.wrap keep).tmod ((n : Int) + 1) = (stayK keep n : Int) := by
  have g0 : 0 ≤ IntKind.u64.wrap keep := by rw [IntKind.wrap_u64]; omega
  have a1 := Int.tmod_nonneg ((n : Int) + 1) g0
  unfold stayK; omega
theorem stayK_le (keep : Int) (n : Nat) : stayK keep n ≤ n := by
  have a2 := Int.tmod_lt_of_pos (IntKind.u64.wrap keep) (show (0 : Int) < (n : Int) + 1 by omega)
  have := stayK_eq keep n
  omega
end
end Go.Proofs.YtapdpdhibpblgaaGreatDoor.Rl
end

-- joined
section
namespace Go.Proofs.YtapdpdhibpblgaaGreatDoor.Rl
open Go.ChangeShapes Go.WideShapes Go.ChangeAt Go.RowKit Go.PlainAid Aid Mn
set_option linter.unusedVariables false
set_option linter.unusedSimpArgs false
/-! Of nil. -/
section
variable (w : World)
theorem Read_nil : Calls Tryz.prog 57 #[.pointer none] w fun e w' => e = .returned (.tuple #[.string ⟨#[]⟩, .int .i64 2]) ∧ w = w' := by
  go_enter Tryz.func57, Tryz.ntmps57
  go_wp2_with fail
  go_returns
  exact ⟨rfl, rfl⟩
theorem Append_nil (s : ByteArray) : Calls Tryz.prog 32 #[.pointer none, .string s] w fun e w' => e = .returned (.int .i64 2) ∧ w = w' := by
  go_enter Tryz.func32, Tryz.ntmps32
  go_wp2_with fail
  go_returns
  exact ⟨rfl, rfl⟩
theorem Sync_nil : Calls Tryz.prog 120 #[.pointer none] w fun e w' => e = .returned (.int .i64 2) ∧ w = w' := by
  go_enter Tryz.func120, Tryz.ntmps120
  go_wp2_with fail
  go_returns
  exact ⟨rfl, rfl⟩
theorem Trim_nil (n : Int) : Calls Tryz.prog 59 #[.pointer none, .int .i64 n] w fun e w' => e = .returned (.int .i64 2) ∧ w = w' := by
  go_enter Tryz.func59, Tryz.ntmps59
  go_wp2_with fail
  go_returns
  exact ⟨rfl, rfl⟩
theorem Len_nil : Calls Tryz.prog 31 #[.pointer none] w fun e w' => e = .returned (.int .i64 0) ∧ w = w' := by
  go_enter Tryz.func31, Tryz.ntmps31
  go_wp2_with fail
  go_returns
  exact ⟨rfl, rfl⟩
theorem Safe_nil : Calls Tryz.prog 95 #[.pointer none] w fun e w' => e = .returned (.int .i64 0) ∧ w = w' := by
  go_enter Tryz.func95, Tryz.ntmps95
  go_wp2_with fail
  go_returns
  exact ⟨rfl, rfl⟩
theorem Left_nil : Calls Tryz.prog 67 #[.pointer none] w fun e w' => e = .returned (.int .i64 0) ∧ w = w' := by
  go_enter Tryz.func67, Tryz.ntmps67
  go_wp2_with fail
  go_returns
  exact ⟨rfl, rfl⟩
end
/-! A reel and its power, in one world, of which nothing else is known. -/
structure Rm (w0 w : World) (g m : Nat) (size : Nat) (s : ByteArray) (safe : Nat) (q : Pw) : Prop where
  rl : ∃ O, Rl w g m O size s safe ∧ ∀ k, O k → w0.heap.size ≤ k
  mn : Mn w m q
  bel : Below w0.heap.size w0 w
  hm : w0.heap.size ≤ m
theorem mo_base {B m : Nat} {O : Nat → Prop} (h : B ≤ m) (h2 : ∀ k, O k → B ≤ k) (n : Nat) : ∀ i, i < n → MO m O i → B ≤ i := by
  rintro i - (e | e)
  · exact e ▸ h
  · exact h2 i e
section
variable {w0 w w' : World} {g m size safe : Nat} {s : ByteArray} {q : Pw}
theorem Rm.below (h : Rm w0 w g m size s safe q) (hb : Below w.heap.size w w') : Rm w0 w' g m size s safe q := by
  obtain ⟨O, h1, h2⟩ := h.rl
  exact ⟨⟨O, h1.keepB hb, h2⟩, h.mn.keep (S := fun _ => False) (Chg.of_below hb) id, bl h.bel hb, h.hm⟩
theorem Rm.drewN (h : Rm w0 w g m size s safe q) (n : Nat) : Rm w0 (w.drewN n) g m size s safe q := h.below (blN (Below.refl _ _) n)
theorem Rm.pow (h : Rm w0 w g m size s safe q) {q' : Pw} (hm : Mn w' m q') (hb : Chg (· = m) w w') : Rm w0 w' g m size s safe q' := by
  obtain ⟨O, h1, h2⟩ := h.rl
  exact ⟨⟨O, h1.pow hb, h2⟩, hm, bl1 h.bel hb h.bel.size h.hm, h.hm⟩
theorem Rm.new (h : Below w0.heap.size w0 w) (hm : Mn w m q) (h0 : w0.heap.size ≤ m) (n : Int) :
    Calls Tryz.prog 26 #[.pointer (some ⟨m, 0, none⟩), .int .i64 n] w fun e w' => e = .returned (.pointer (some ⟨w.heap.size, 0, none⟩)) ∧ Rm w0 w' w.heap.size m (nearR n) ⟨#[]⟩ 0 q :=
  (New_any m n w hm.lt).mono fun e w' ⟨he, ⟨O, h1, h2⟩, hb⟩ => ⟨he, ⟨⟨O, h1, fun k hk => (h2 k hk).elim (fun f => f.elim) (fun x => by have := h.size; omega)⟩, hm.keep (S := fun _ => False) (Chg.of_below hb) id, bl h hb, h0⟩⟩
theorem Rm.append_ok (h : Rm w0 w g m size s safe q) (x : ByteArray) (hx : (x.size : Int) ≤ (size : Int) - s.size) (hq : q.ans = 0) :
    Calls Tryz.prog 32 #[.pointer (some ⟨g, 0, none⟩), .string x] w fun e w' => e = .returned (.int .i64 0) ∧ Rm w0 w' g m size (s ++ x) safe q.use := by
  obtain ⟨O, h1, h2⟩ := h.rl
  refine (Append_ok g m O size s safe q x w h1 h.mn hx hq).mono ?_
  rintro e w' ⟨rfl, ⟨O', h3, h4⟩, hm, hb⟩
  have hs := h.bel.size
  exact ⟨rfl, ⟨⟨O', h3, fun k hk => (h4 k hk).elim (h2 k) (fun _ => by omega)⟩, hm, blS h.bel hb hs (mo_base h.hm h2 _), h.hm⟩⟩
theorem Rm.append_down (h : Rm w0 w g m size s safe q) (x : ByteArray) (hx : (x.size : Int) ≤ (size : Int) - s.size) (hq : q.ans = 4) :
    Calls Tryz.prog 32 #[.pointer (some ⟨g, 0, none⟩), .string x] w fun e w' => e = .returned (.int .i64 4) ∧ Rm w0 w' g m size s safe q.use := by
  obtain ⟨O, h1, h2⟩ := h.rl
  refine (Append_down g m O size s safe q x w h1 h.mn hx hq).mono ?_
  rintro e w' ⟨rfl, hm, hb⟩
  exact ⟨rfl, h.pow hm hb⟩
theorem Rm.append_full (h : Rm w0 w g m size s safe q) (x : ByteArray) (hx : (size : Int) - s.size < x.size) :
    Calls Tryz.prog 32 #[.pointer (some ⟨g, 0, none⟩), .string x] w fun e w' => e = .returned (.int .i64 5) ∧ Rm w0 w' g m size s safe q := by
  obtain ⟨O, h1, h2⟩ := h.rl
  refine (Append_full g m O size s safe x w h1 hx).mono ?_
  rintro e w' ⟨rfl, k, rfl⟩
  exact ⟨rfl, h.drewN k⟩
theorem Rm.sync_ok (h : Rm w0 w g m size s safe q) (hq : q.ans = 0) :
    Calls Tryz.prog 120 #[.pointer (some ⟨g, 0, none⟩)] w fun e w' => e = .returned (.int .i64 0) ∧ Rm w0 w' g m size s s.size q.use := by
  obtain ⟨O, h1, h2⟩ := h.rl
  refine (Sync_ok g m O size s safe q w h1 h.mn hq).mono ?_
  rintro e w' ⟨rfl, h3, hm, hb⟩
  exact ⟨rfl, ⟨⟨O, h3, h2⟩, hm, blS h.bel hb h.bel.size (mo_base h.hm h2 _), h.hm⟩⟩
theorem Rm.sync_down (h : Rm w0 w g m size s safe q) (hq : q.ans = 4) :
    Calls Tryz.prog 120 #[.pointer (some ⟨g, 0, none⟩)] w fun e w' => e = .returned (.int .i64 4) ∧ Rm w0 w' g m size s safe q.use := by
  obtain ⟨O, h1, h2⟩ := h.rl
  refine (Sync_down g m O size s safe q w h1 h.mn hq).mono ?_
  rintro e w' ⟨rfl, hm, hb⟩
  exact ⟨rfl, h.pow hm hb⟩
theorem Rm.trim_down (h : Rm w0 w g m size s safe q) (n : Nat) (hn : n ≤ s.size) (hq : q.ans = 4) :
    Calls Tryz.prog 59 #[.pointer (some ⟨g, 0, none⟩), .int .i64 n] w fun e w' => e = .returned (.int .i64 4) ∧ Rm w0 w' g m size s safe q.use := by
  obtain ⟨O, h1, h2⟩ := h.rl
  refine (Trim_down g m O size s safe q w n h1 h.mn hn hq).mono ?_
  rintro e w' ⟨rfl, hm, hb⟩
  exact ⟨rfl, h.pow hm hb⟩
theorem Rm.read (h : Rm w0 w g m size s safe q) : Calls Tryz.prog 57 #[.pointer (some ⟨g, 0, none⟩)] w fun e w' => e = .returned (readV q s) ∧ w = w' := by
  obtain ⟨O, h1, h2⟩ := h.rl
  exact Read_any g m O size s safe q w h1 h.mn
theorem Rm.read_on (h : Rm w0 w g m size s safe q) (hq : q.on = true) : Calls Tryz.prog 57 #[.pointer (some ⟨g, 0, none⟩)] w fun e w' => e = .returned (.tuple #[.string s, .int .i64 0]) ∧ w = w' := by
  have := h.read
  unfold readV at this
  rw [if_pos hq] at this
  exact this
theorem Rm.cast (h : Rm w0 w g m size s safe q) {size' safe' : Nat} {s' : ByteArray} {q' : Pw} (e1 : size = size') (e2 : s = s') (e3 : safe = safe') (e4 : q = q') : Rm w0 w g m size' s' safe' q' := by
  subst e1; subst e2; subst e3; subst e4; exact h
theorem Rm.len (h : Rm w0 w g m size s safe q) : Calls Tryz.prog 31 #[.pointer (some ⟨g, 0, none⟩)] w fun e w' => e = .returned (.int .i64 s.size) ∧ w = w' := by
  obtain ⟨O, h1, h2⟩ := h.rl
  exact Len_any g m O size s safe w h1
theorem Rm.safeN (h : Rm w0 w g m size s safe q) : Calls Tryz.prog 95 #[.pointer (some ⟨g, 0, none⟩)] w fun e w' => e = .returned (.int .i64 safe) ∧ w = w' := by
  obtain ⟨O, h1, h2⟩ := h.rl
  exact Safe_any g m O size s safe w h1
theorem Rm.left (h : Rm w0 w g m size s safe q) : Calls Tryz.prog 67 #[.pointer (some ⟨g, 0, none⟩)] w fun e w' => e = .returned (.int .i64 ((size : Int) - (s.size : Int))) ∧ ∃ k, w' = w.drewN k := by
  obtain ⟨O, h1, h2⟩ := h.rl
  exact Left_any g m O size s safe w h1
end
end Go.Proofs.YtapdpdhibpblgaaGreatDoor.Rl
end

-- joined
section
namespace Go.Proofs.YtapdpdhibpblgaaGreatDoor.Mn
open Go.ChangeShapes Go.WideShapes Go.ChangeAt Go.RowKit Go.PlainAid Aid
set_option linter.unusedVariables false
set_option linter.unusedSimpArgs false

/-- The program's power and the document's are alike: a fuse below 0 is none. -/
def Sim (p q : Pw) : Prop := p.on = q.on ∧ p.boots = q.boots ∧ (p.fuse = q.fuse ∨ (p.fuse < 0 ∧ q.fuse < 0))
theorem sim_use {p q : Pw} (h : Sim p q) : Sim p.use q.use ∧ p.ans = q.ans := by
  obtain ⟨o, f, b⟩ := p
  obtain ⟨o', f', b'⟩ := q
  obtain ⟨h1, h2, h3⟩ := h
  simp only at h1 h2 h3
  subst h1; subst h2
  rcases h3 with rfl | ⟨h3, h4⟩
  · exact ⟨⟨rfl, rfl, Or.inl rfl⟩, rfl⟩
  · have a1 : ¬ f = 0 := by omega
    have a2 : ¬ f' = 0 := by omega
    have a3 : ¬ 0 < f := by omega
    have a4 : ¬ 0 < f' := by omega
    cases o <;> simp [Pw.use, Pw.ans, a1, a2, a3, a4, Sim, h3, h4]
theorem sim_lay {p q : Pw} (h : Sim p q) (n : Int) : Sim (p.lay n) (q.lay (if n < 0 then -1 else n)) := by
  refine ⟨h.1, h.2.1, ?_⟩
  show n = (if n < 0 then -1 else n) ∨ (n < 0 ∧ (if n < 0 then -1 else n) < 0)
  by_cases hn : n < 0
  · rw [if_pos hn]; omega
  · rw [if_neg hn]; exact Or.inl rfl
theorem sim_off {p q : Pw} (h : Sim p q) : Sim p.off q.off := ⟨rfl, h.2.1, h.2.2⟩
theorem sim_come {p q : Pw} (h : Sim p q) : Sim p.come q.come := by
  obtain ⟨o, f, b⟩ := p
  obtain ⟨o', f', b'⟩ := q
  obtain ⟨h1, h2, h3⟩ := h
  simp only at h1 h2 h3
  subst h1; subst h2
  cases o
  · exact ⟨rfl, rfl, Or.inl rfl⟩
  · exact ⟨rfl, rfl, h3⟩

end Go.Proofs.YtapdpdhibpblgaaGreatDoor.Mn
end

-- joined
section
namespace Go.Proofs.YtapdpdhibpblgaaGreatDoor.Mn
open Go.ChangeShapes Go.WideShapes Go.ChangeAt Go.RowKit Go.PlainAid Aid
set_option linter.unusedVariables false
set_option linter.unusedSimpArgs false
/-! Power, and the document's, as what is owned. -/
def aMn (g : Nat) (q : Pw) : Asn :=
  ⟨fun w O => Mn w g q ∧ ∀ k, O k ↔ k = g, fun _ _ h k hk => by rw [(h.2 k).1 hk]; exact h.1.lt, fun _ _ _ _ h hc hS => ⟨h.1.keep hc (hS g ((h.2 g).2 rfl)), h.2⟩⟩
theorem mnOwn {w w' : World} {O : Nat → Prop} {g : Nat} {q : Pw} (hO : ∀ k, O k ↔ k = g) (h : Mn w' g q) (hc : Chg (· = g) w w') : Own w O w' (aMn g q) :=
  ⟨⟨O, ⟨h, hO⟩, Fresh.refl _ _⟩, hc.mono (fun i _ e => (hO i).2 e)⟩
section
variable (g : Nat) (q : Pw)
theorem tNew : TrE Tryz.prog 23 #[] Asn.emp (fun g => .pointer (some ⟨g, 0, none⟩)) (fun g => aMn g ⟨true, -1, 1⟩) := fun w O h =>
  (New_any w).mono fun e w' ⟨he, hm, hb⟩ => ⟨w.heap.size, he, ⟨⟨(· = w.heap.size), ⟨hm, fun _ => Iff.rfl⟩, fun k hk => Or.inr (by omega)⟩, Chg.of_below hb⟩⟩
theorem tUse (a : Int) (ha : q.ans = a) : Tr Tryz.prog 69 #[.pointer (some ⟨g, 0, none⟩)] (aMn g q) (.int .i64 a) (aMn g q.use) := fun w O h =>
  (Use_as g q w h.1 a _ ha rfl).mono fun e w' ⟨he, hm, hb⟩ => ⟨he, mnOwn h.2 hm hb⟩
theorem qIsOn : Qt Tryz.prog 90 #[.pointer (some ⟨g, 0, none⟩)] (aMn g q) (.bool q.on) := fun w O h =>
  (IsOn_any g q w h.1).mono fun e w' ⟨he, hw⟩ => ⟨he, 0, hw.symm⟩
end
theorem has_mn (g : Nat) (q : Pw) : Has (aMn g q) g 131 q.row := fun _ _ h => h.1.1
end Go.Proofs.YtapdpdhibpblgaaGreatDoor.Mn
end

-- joined
section
namespace Go.Proofs.YtapdpdhibpblgaaGreatDoor.Rl
open Go.ChangeShapes Go.WideShapes Go.ChangeAt Go.RowKit Go.PlainAid Aid Mn
set_option linter.unusedVariables false
set_option linter.unusedSimpArgs false
/-! A reel as what is owned; its power apart. -/
def aRl (g m size : Nat) (s : ByteArray) (safe : Nat) : Asn :=
  ⟨fun w O => Rl w g m O size s safe, fun _ _ h k hk => h.lt hk, fun _ _ _ _ h hc hS => h.keep hc hS⟩
section
variable (g m size : Nat) (s : ByteArray) (safe : Nat) (q : Pw)
theorem rlOwn {w w' : World} {O X Y : Nat → Prop} {s' : ByteArray} {safe' : Nat} {q' : Pw} (hO : ∀ k, O k ↔ X k ∨ Y k) (hY : ∀ k, Y k ↔ k = m) {X' : Nat → Prop} (h : Rl w' g m X' size s' safe') (hf : Fresh w X X') (hm : Mn w' m q') (hc : Chg (MO m X) w w') :
    Own w O w' (aRl g m size s' safe' * aMn m q') :=
  ⟨⟨fun k => X' k ∨ k = m, ⟨X', (· = m), h, ⟨hm, fun _ => Iff.rfl⟩, fun k h1 h2 => h.notm (h2 ▸ h1), fun _ => Iff.rfl⟩, fun k hk => by
    rcases hk with hk | hk
    · exact (hf k hk).elim (fun x => Or.inl ((hO k).2 (Or.inl x))) Or.inr
    · exact Or.inl ((hO k).2 (Or.inr ((hY k).2 hk)))⟩, hc.mono (fun i _ hi => by
    rcases hi with hi | hi
    · exact (hO i).2 (Or.inr ((hY i).2 hi))
    · exact (hO i).2 (Or.inl hi))⟩
theorem tNew (n : Int) : TrE Tryz.prog 26 #[.pointer (some ⟨m, 0, none⟩), .int .i64 n] (aMn m q) (fun g => .pointer (some ⟨g, 0, none⟩)) (fun g => aRl g m (nearR n) ⟨#[]⟩ 0 * aMn m q) := fun w O h =>
  (New_any m n w h.1.lt).mono fun e w' ⟨he, ⟨X, hr, hf⟩, hb⟩ => ⟨w.heap.size, he, rlOwn _ m _ (X := fun _ => False) (fun k => by simp) h.2 hr hf (h.1.keep (S := fun _ => False) (Chg.of_below hb) id) (Chg.of_below hb)⟩
theorem tAppend_ok (x : ByteArray) (hx : (x.size : Int) ≤ (size : Int) - s.size) (hq : q.ans = 0) :
    Tr Tryz.prog 32 #[.pointer (some ⟨g, 0, none⟩), .string x] (aRl g m size s safe * aMn m q) (.int .i64 0) (aRl g m size (s ++ x) safe * aMn m q.use) := fun w O ⟨X, Y, h, hm, hd, hO⟩ =>
  (Append_ok g m X size s safe q x w h hm.1 hx hq).mono fun e w' ⟨he, ⟨X', hr, hf⟩, hm', hc⟩ => ⟨he, rlOwn _ _ _ hO hm.2 hr hf hm' hc⟩
theorem tAppend_down (x : ByteArray) (hx : (x.size : Int) ≤ (size : Int) - s.size) (hq : q.ans = 4) :
    Tr Tryz.prog 32 #[.pointer (some ⟨g, 0, none⟩), .string x] (aRl g m size s safe * aMn m q) (.int .i64 4) (aRl g m size s safe * aMn m q.use) := fun w O ⟨X, Y, h, hm, hd, hO⟩ =>
  (Append_down g m X size s safe q x w h hm.1 hx hq).mono fun e w' ⟨he, hm', hc⟩ => ⟨he, rlOwn _ _ _ hO hm.2 (h.pow hc) (Fresh.refl _ _) hm' (hc.mono (fun _ _ e => Or.inl e))⟩
theorem qAppend_full (x : ByteArray) (hx : (size : Int) - s.size < x.size) :
    Qt Tryz.prog 32 #[.pointer (some ⟨g, 0, none⟩), .string x] (aRl g m size s safe) (.int .i64 5) := fun w O h => Append_full g m O size s safe x w h hx
theorem tSync_ok (hq : q.ans = 0) :
    Tr Tryz.prog 120 #[.pointer (some ⟨g, 0, none⟩)] (aRl g m size s safe * aMn m q) (.int .i64 0) (aRl g m size s s.size * aMn m q.use) := fun w O ⟨X, Y, h, hm, hd, hO⟩ =>
  (Sync_ok g m X size s safe q w h hm.1 hq).mono fun e w' ⟨he, hr, hm', hc⟩ => ⟨he, rlOwn _ _ _ hO hm.2 hr (Fresh.refl _ _) hm' hc⟩
theorem tSync_down (hq : q.ans = 4) :
    Tr Tryz.prog 120 #[.pointer (some ⟨g, 0, none⟩)] (aRl g m size s safe * aMn m q) (.int .i64 4) (aRl g m size s safe * aMn m q.use) := fun w O ⟨X, Y, h, hm, hd, hO⟩ =>
  (Sync_down g m X size s safe q w h hm.1 hq).mono fun e w' ⟨he, hm', hc⟩ => ⟨he, rlOwn _ _ _ hO hm.2 (h.pow hc) (Fresh.refl _ _) hm' (hc.mono (fun _ _ e => Or.inl e))⟩
theorem qTrim_arg (n : Int) (hn : trimW s n) :
    Qt Tryz.prog 59 #[.pointer (some ⟨g, 0, none⟩), .int .i64 n] (aRl g m size s safe) (.int .i64 1) := fun w O h => (Trim_arg g m O size s safe w n h hn).mono fun e w' ⟨he, hw⟩ => ⟨he, 0, hw.symm⟩
theorem tTrim_ok (n : Nat) (hn : n ≤ s.size) (hq : q.ans = 0) :
    Tr Tryz.prog 59 #[.pointer (some ⟨g, 0, none⟩), .int .i64 n] (aRl g m size s safe * aMn m q) (.int .i64 0) (aRl g m size (s.extract 0 n) n * aMn m q.use) := fun w O ⟨X, Y, h, hm, hd, hO⟩ =>
  (Trim_ok g m X size s safe q w n h hm.1 hn hq).mono fun e w' ⟨he, hr, hm', hc⟩ => ⟨he, rlOwn _ _ _ hO hm.2 hr (Fresh.refl _ _) hm' hc⟩
theorem tTrim_down (n : Nat) (hn : n ≤ s.size) (hq : q.ans = 4) :
    Tr Tryz.prog 59 #[.pointer (some ⟨g, 0, none⟩), .int .i64 n] (aRl g m size s safe * aMn m q) (.int .i64 4) (aRl g m size s safe * aMn m q.use) := fun w O ⟨X, Y, h, hm, hd, hO⟩ =>
  (Trim_down g m X size s safe q w n h hm.1 hn hq).mono fun e w' ⟨he, hm', hc⟩ => ⟨he, rlOwn _ _ _ hO hm.2 (h.pow hc) (Fresh.refl _ _) hm' (hc.mono (fun _ _ e => Or.inl e))⟩
theorem qRead : Qt Tryz.prog 57 #[.pointer (some ⟨g, 0, none⟩)] (aRl g m size s safe * aMn m q) (readV q s) := fun w O ⟨X, Y, h, hm, hd, hO⟩ => (Read_any g m X size s safe q w h hm.1).mono fun e w' ⟨he, hw⟩ => ⟨he, 0, hw.symm⟩
theorem qRead_on (hq : q.on = true) : Qt Tryz.prog 57 #[.pointer (some ⟨g, 0, none⟩)] (aRl g m size s safe * aMn m q) (.tuple #[.string s, .int .i64 0]) := by
  have := qRead g m size s safe q; unfold readV at this; rw [if_pos hq] at this; exact this
theorem qRead_off (hq : q.on = false) : Qt Tryz.prog 57 #[.pointer (some ⟨g, 0, none⟩)] (aRl g m size s safe * aMn m q) (.tuple #[.string ⟨#[]⟩, .int .i64 4]) := by
  have := qRead g m size s safe q; unfold readV at this; rw [if_neg (by simp [hq])] at this; exact this
theorem qLen : Qt Tryz.prog 31 #[.pointer (some ⟨g, 0, none⟩)] (aRl g m size s safe) (.int .i64 s.size) := fun w O h => (Len_any g m O size s safe w h).mono fun e w' ⟨he, hw⟩ => ⟨he, 0, hw.symm⟩
theorem qSafe : Qt Tryz.prog 95 #[.pointer (some ⟨g, 0, none⟩)] (aRl g m size s safe) (.int .i64 safe) := fun w O h => (Safe_any g m O size s safe w h).mono fun e w' ⟨he, hw⟩ => ⟨he, 0, hw.symm⟩
theorem qLeft : Qt Tryz.prog 67 #[.pointer (some ⟨g, 0, none⟩)] (aRl g m size s safe) (.int .i64 ((size : Int) - (s.size : Int))) := fun w O h => Left_any g m O size s safe w h
end
/-! The document's reel. -/
def rrRow (s : ByteArray) (safe size : Nat) : Array Value := #[.string s, .int .i64 safe, .int .i64 size]
end Go.Proofs.YtapdpdhibpblgaaGreatDoor.Rl
end
