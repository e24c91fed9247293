import Derived.Test.YtaacinhmgmmcaaaDoorMnC
import Derived.Test.YtaacinhmgmmcaaaDoorArgs
namespace Go.Proofs.YtaacinhmgmmcaaaDoor.Rl
open Go.ChangeShapes Go.WideShapes Go.ChangeAt Go.RowKit Go.PlainAid Aid Mn
set_option linter.unusedVariables false
set_option linter.unusedSimpArgs false
/-! Of nil. -/
section
variable (w : World)
theorem Read_nil : Calls Tryd.prog 24 #[.pointer none] w fun e w' => e = .returned (.tuple #[.string ⟨#[]⟩, .int .i64 2]) ∧ w = w' := by
  go_enter Tryd.func24, Tryd.ntmps24
  go_wp2_with fail
  go_returns
  exact ⟨rfl, rfl⟩
theorem Append_nil (s : ByteArray) : Calls Tryd.prog 30 #[.pointer none, .string s] w fun e w' => e = .returned (.int .i64 2) ∧ w = w' := by
  go_enter Tryd.func30, Tryd.ntmps30
  go_wp2_with fail
  go_returns
  exact ⟨rfl, rfl⟩
theorem Sync_nil : Calls Tryd.prog 37 #[.pointer none] w fun e w' => e = .returned (.int .i64 2) ∧ w = w' := by
  go_enter Tryd.func37, Tryd.ntmps37
  go_wp2_with fail
  go_returns
  exact ⟨rfl, rfl⟩
theorem Trim_nil (n : Int) : Calls Tryd.prog 26 #[.pointer none, .int .i64 n] w fun e w' => e = .returned (.int .i64 2) ∧ w = w' := by
  go_enter Tryd.func26, Tryd.ntmps26
  go_wp2_with fail
  go_returns
  exact ⟨rfl, rfl⟩
theorem Len_nil : Calls Tryd.prog 29 #[.pointer none] w fun e w' => e = .returned (.int .i64 0) ∧ w = w' := by
  go_enter Tryd.func29, Tryd.ntmps29
  go_wp2_with fail
  go_returns
  exact ⟨rfl, rfl⟩
theorem Safe_nil : Calls Tryd.prog 54 #[.pointer none] w fun e w' => e = .returned (.int .i64 0) ∧ w = w' := by
  go_enter Tryd.func54, Tryd.ntmps54
  go_wp2_with fail
  go_returns
  exact ⟨rfl, rfl⟩
theorem Left_nil : Calls Tryd.prog 38 #[.pointer none] w fun e w' => e = .returned (.int .i64 0) ∧ w = w' := by
  go_enter Tryd.func38, Tryd.ntmps38
  go_wp2_with fail
  go_returns
  exact ⟨rfl, rfl⟩
end
/-! A reel and its power, in one world, of which nothing else is known. -/
structure Rm (w0 w : World) (g m : Nat) (size : Nat) (s : ByteArray) (safe : Nat) (q : Pw) : Prop where
  rl : ∃ O, Rl w g m O size s safe ∧ ∀ k, O k → w0.heap.size ≤ k
  mn : Mn w m q
  bel : Below w0.heap.size w0 w
  hm : w0.heap.size ≤ m
theorem mo_base {B m : Nat} {O : Nat → Prop} (h : B ≤ m) (h2 : ∀ k, O k → B ≤ k) (n : Nat) : ∀ i, i < n → MO m O i → B ≤ i := by
  rintro i - (e | e)
  · exact e ▸ h
  · exact h2 i e
section
variable {w0 w w' : World} {g m size safe : Nat} {s : ByteArray} {q : Pw}
theorem Rm.below (h : Rm w0 w g m size s safe q) (hb : Below w.heap.size w w') : Rm w0 w' g m size s safe q := by
  obtain ⟨O, h1, h2⟩ := h.rl
  exact ⟨⟨O, h1.keepB hb, h2⟩, h.mn.keep (S := fun _ => False) (Chg.of_below hb) id, bl h.bel hb, h.hm⟩
theorem Rm.drewN (h : Rm w0 w g m size s safe q) (n : Nat) : Rm w0 (w.drewN n) g m size s safe q := h.below (blN (Below.refl _ _) n)
theorem Rm.pow (h : Rm w0 w g m size s safe q) {q' : Pw} (hm : Mn w' m q') (hb : Chg (· = m) w w') : Rm w0 w' g m size s safe q' := by
  obtain ⟨O, h1, h2⟩ := h.rl
  exact ⟨⟨O, h1.pow hb, h2⟩, hm, bl1 h.bel hb h.bel.size h.hm, h.hm⟩
theorem Rm.new (h : Below w0.heap.size w0 w) (hm : Mn w m q) (h0 : w0.heap.size ≤ m) (n : Int) :
    Calls Tryd.prog 6 #[.pointer (some ⟨m, 0, none⟩), .int .i64 n] w fun e w' => e = .returned (.pointer (some ⟨w.heap.size, 0, none⟩)) ∧ Rm w0 w' w.heap.size m (nearR n) ⟨#[]⟩ 0 q :=
  (New_any m n w hm.lt).mono fun e w' ⟨he, ⟨O, h1, h2⟩, hb⟩ => ⟨he, ⟨⟨O, h1, fun k hk => (h2 k hk).elim (fun f => f.elim) (fun x => by have := h.size; omega)⟩, hm.keep (S := fun _ => False) (Chg.of_below hb) id, bl h hb, h0⟩⟩
theorem Rm.append_ok (h : Rm w0 w g m size s safe q) (x : ByteArray) (hx : (x.size : Int) ≤ (size : Int) - s.size) (hq : q.ans = 0) :
    Calls Tryd.prog 30 #[.pointer (some ⟨g, 0, none⟩), .string x] w fun e w' => e = .returned (.int .i64 0) ∧ Rm w0 w' g m size (s ++ x) safe q.use := by
  obtain ⟨O, h1, h2⟩ := h.rl
  refine (Append_ok g m O size s safe q x w h1 h.mn hx hq).mono ?_
  rintro e w' ⟨rfl, ⟨O', h3, h4⟩, hm, hb⟩
  have hs := h.bel.size
  exact ⟨rfl, ⟨⟨O', h3, fun k hk => (h4 k hk).elim (h2 k) (fun _ => by omega)⟩, hm, blS h.bel hb hs (mo_base h.hm h2 _), h.hm⟩⟩
theorem Rm.append_down (h : Rm w0 w g m size s safe q) (x : ByteArray) (hx : (x.size : Int) ≤ (size : Int) - s.size) (hq : q.ans = 4) :
    Calls Tryd.prog 30 #[.pointer (some ⟨g, 0, none⟩), .string x] w fun e w' => e = .returned (.int .i64 4) ∧ Rm w0 w' g m size s safe q.use := by
  obtain ⟨O, h1, h2⟩ := h.rl
  refine (Append_down g m O size s safe q x w h1 h.mn hx hq).mono ?_
  rintro e w' ⟨rfl, hm, hb⟩
  exact ⟨rfl, h.pow hm hb⟩
theorem Rm.append_full (h : Rm w0 w g m size s safe q) (x : ByteArray) (hx : (size : Int) - s.size < x.size) :
    Calls Tryd.prog 30 #[.pointer (some ⟨g, 0, none⟩), .string x] w fun e w' => e = .returned (.int .i64 5) ∧ Rm w0 w' g m size s safe q := by
  obtain ⟨O, h1, h2⟩ := h.rl
  refine (Append_full g m O size s safe x w h1 hx).mono ?_
  rintro e w' ⟨rfl, k, rfl⟩
  exact ⟨rfl, h.drewN k⟩
theorem Rm.sync_ok (h : Rm w0 w g m size s safe q) (hq : q.ans = 0) :
    Calls Tryd.prog 37 #[.pointer (some ⟨g, 0, none⟩)] w fun e w' => e = .returned (.int .i64 0) ∧ Rm w0 w' g m size s s.size q.use := by
  obtain ⟨O, h1, h2⟩ := h.rl
  refine (Sync_ok g m O size s safe q w h1 h.mn hq).mono ?_
  rintro e w' ⟨rfl, h3, hm, hb⟩
  exact ⟨rfl, ⟨⟨O, h3, h2⟩, hm, blS h.bel hb h.bel.size (mo_base h.hm h2 _), h.hm⟩⟩
theorem Rm.sync_down (h : Rm w0 w g m size s safe q) (hq : q.ans = 4) :
    Calls Tryd.prog 37 #[.pointer (some ⟨g, 0, none⟩)] w fun e w' => e = .returned (.int .i64 4) ∧ Rm w0 w' g m size s safe q.use := by
  obtain ⟨O, h1, h2⟩ := h.rl
  refine (Sync_down g m O size s safe q w h1 h.mn hq).mono ?_
  rintro e w' ⟨rfl, hm, hb⟩
  exact ⟨rfl, h.pow hm hb⟩
theorem Rm.trim_down (h : Rm w0 w g m size s safe q) (n : Nat) (hn : n ≤ s.size) (hq : q.ans = 4) :
    Calls Tryd.prog 26 #[.pointer (some ⟨g, 0, none⟩), .int .i64 n] w fun e w' => e = .returned (.int .i64 4) ∧ Rm w0 w' g m size s safe q.use := by
  obtain ⟨O, h1, h2⟩ := h.rl
  refine (Trim_down g m O size s safe q w n h1 h.mn hn hq).mono ?_
  rintro e w' ⟨rfl, hm, hb⟩
  exact ⟨rfl, h.pow hm hb⟩
theorem Rm.read (h : Rm w0 w g m size s safe q) : Calls Tryd.prog 24 #[.pointer (some ⟨g, 0, none⟩)] w fun e w' => e = .returned (readV q s) ∧ w = w' := by
  obtain ⟨O, h1, h2⟩ := h.rl
  exact Read_any g m O size s safe q w h1 h.mn
theorem Rm.read_on (h : Rm w0 w g m size s safe q) (hq : q.on = true) : Calls Tryd.prog 24 #[.pointer (some ⟨g, 0, none⟩)] w fun e w' => e = .returned (.tuple #[.string s, .int .i64 0]) ∧ w = w' := by
  have := h.read
  unfold readV at this
  rw [if_pos hq] at this
  exact this
theorem Rm.cast (h : Rm w0 w g m size s safe q) {size' safe' : Nat} {s' : ByteArray} {q' : Pw} (e1 : size = size') (e2 : s = s') (e3 : safe = safe') (e4 : q = q') : Rm w0 w g m size' s' safe' q' := by
  subst e1; subst e2; subst e3; subst e4; exact h
theorem Rm.len (h : Rm w0 w g m size s safe q) : Calls Tryd.prog 29 #[.pointer (some ⟨g, 0, none⟩)] w fun e w' => e = .returned (.int .i64 s.size) ∧ w = w' := by
  obtain ⟨O, h1, h2⟩ := h.rl
  exact Len_any g m O size s safe w h1
theorem Rm.safeN (h : Rm w0 w g m size s safe q) : Calls Tryd.prog 54 #[.pointer (some ⟨g, 0, none⟩)] w fun e w' => e = .returned (.int .i64 safe) ∧ w = w' := by
  obtain ⟨O, h1, h2⟩ := h.rl
  exact Safe_any g m O size s safe w h1
theorem Rm.left (h : Rm w0 w g m size s safe q) : Calls Tryd.prog 38 #[.pointer (some ⟨g, 0, none⟩)] w fun e w' => e = .returned (.int .i64 ((size : Int) - (s.size : Int))) ∧ ∃ k, w' = w.drewN k := by
  obtain ⟨O, h1, h2⟩ := h.rl
  exact Left_any g m O size s safe w h1
end
end Go.Proofs.YtaacinhmgmmcaaaDoor.Rl
