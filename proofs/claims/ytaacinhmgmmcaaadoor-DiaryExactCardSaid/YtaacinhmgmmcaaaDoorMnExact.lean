/- Texts of ours, joined. -/
import Derived.Test.YtaacinhmgmmcaaaDoorMnC
import Derived.Test.YtaacinhmgmmcaaaDoorSep
import Derived.Test.YtaacinhmgmmcaaaDoorArgs
import Derived.Test.YtaacinhmgmmcaaaDoorRlD

-- joined
section
namespace Go.Proofs.YtaacinhmgmmcaaaDoor.Mn
open Go.ChangeShapes Go.WideShapes Go.ChangeAt Go.RowKit Go.PlainAid Aid
set_option linter.unusedVariables false
set_option linter.unusedSimpArgs false

/-- The program's power and the document's are alike: a fuse below 0 is none. -/
def Sim (p q : Pw) : Prop := p.on = q.on ∧ p.boots = q.boots ∧ (p.fuse = q.fuse ∨ (p.fuse < 0 ∧ q.fuse < 0))
theorem sim_use {p q : Pw} (h : Sim p q) : Sim p.use q.use ∧ p.ans = q.ans := by
  obtain ⟨o, f, b⟩ := p
  obtain ⟨o', f', b'⟩ := q
  obtain ⟨h1, h2, h3⟩ := h
  simp only at h1 h2 h3
  subst h1; subst h2
  rcases h3 with rfl | ⟨h3, h4⟩
  · exact ⟨⟨rfl, rfl, Or.inl rfl⟩, rfl⟩
  · have a1 : ¬ f = 0 := by omega
    have a2 : ¬ f' = 0 := by omega
    have a3 : ¬ 0 < f := by omega
    have a4 : ¬ 0 < f' := by omega
    cases o <;> simp [Pw.use, Pw.ans, a1, a2, a3, a4, Sim, h3, h4]
theorem sim_lay {p q : Pw} (h : Sim p q) (n : Int) : Sim (p.lay n) (q.lay (if n < 0 then -1 else n)) := by
  refine ⟨h.1, h.2.1, ?_⟩
  show n = (if n < 0 then -1 else n) ∨ (n < 0 ∧ (if n < 0 then -1 else n) < 0)
  by_cases hn : n < 0
  · rw [if_pos hn]; omega
  · rw [if_neg hn]; exact Or.inl rfl
theorem sim_off {p q : Pw} (h : Sim p q) : Sim p.off q.off := ⟨rfl, h.2.1, h.2.2⟩
theorem sim_come {p q : Pw} (h : Sim p q) : Sim p.come q.come := by
  obtain ⟨o, f, b⟩ := p
  obtain ⟨o', f', b'⟩ := q
  obtain ⟨h1, h2, h3⟩ := h
  simp only at h1 h2 h3
  subst h1; subst h2
  cases o
  · exact ⟨rfl, rfl, Or.inl rfl⟩
  · exact ⟨rfl, rfl, h3⟩

end Go.Proofs.YtaacinhmgmmcaaaDoor.Mn
end

-- joined
section
namespace Go.Proofs.YtaacinhmgmmcaaaDoor.Mn
open Go.ChangeShapes Go.WideShapes Go.ChangeAt Go.RowKit Go.PlainAid Aid
set_option linter.unusedVariables false
set_option linter.unusedSimpArgs false
/-! Power, and the document's, as what is owned. -/
def aMn (g : Nat) (q : Pw) : Asn :=
  ⟨fun w O => Mn w g q ∧ ∀ k, O k ↔ k = g, fun _ _ h k hk => by rw [(h.2 k).1 hk]; exact h.1.lt, fun _ _ _ _ h hc hS => ⟨h.1.keep hc (hS g ((h.2 g).2 rfl)), h.2⟩⟩
theorem mnOwn {w w' : World} {O : Nat → Prop} {g : Nat} {q : Pw} (hO : ∀ k, O k ↔ k = g) (h : Mn w' g q) (hc : Chg (· = g) w w') : Own w O w' (aMn g q) :=
  ⟨⟨O, ⟨h, hO⟩, Fresh.refl _ _⟩, hc.mono (fun i _ e => (hO i).2 e)⟩
section
variable (g : Nat) (q : Pw)
theorem tNew : TrE Tryd.prog 7 #[] Asn.emp (fun g => .pointer (some ⟨g, 0, none⟩)) (fun g => aMn g ⟨true, -1, 1⟩) := fun w O h =>
  (New_any w).mono fun e w' ⟨he, hm, hb⟩ => ⟨w.heap.size, he, ⟨⟨(· = w.heap.size), ⟨hm, fun _ => Iff.rfl⟩, fun k hk => Or.inr (by omega)⟩, Chg.of_below hb⟩⟩
theorem tUse (a : Int) (ha : q.ans = a) : Tr Tryd.prog 41 #[.pointer (some ⟨g, 0, none⟩)] (aMn g q) (.int .i64 a) (aMn g q.use) := fun w O h =>
  (Use_as g q w h.1 a _ ha rfl).mono fun e w' ⟨he, hm, hb⟩ => ⟨he, mnOwn h.2 hm hb⟩
theorem qIsOn : Qt Tryd.prog 40 #[.pointer (some ⟨g, 0, none⟩)] (aMn g q) (.bool q.on) := fun w O h =>
  (IsOn_any g q w h.1).mono fun e w' ⟨he, hw⟩ => ⟨he, 0, hw.symm⟩
end
theorem has_mn (g : Nat) (q : Pw) : Has (aMn g q) g 73 q.row := fun _ _ h => h.1.1
end Go.Proofs.YtaacinhmgmmcaaaDoor.Mn
end

-- joined
section
namespace Go.Proofs.YtaacinhmgmmcaaaDoor.Rl
open Go.ChangeShapes Go.WideShapes Go.ChangeAt Go.RowKit Go.PlainAid Aid Mn
set_option linter.unusedVariables false
set_option linter.unusedSimpArgs false
/-! A reel as what is owned; its power apart. -/
def aRl (g m size : Nat) (s : ByteArray) (safe : Nat) : Asn :=
  ⟨fun w O => Rl w g m O size s safe, fun _ _ h k hk => h.lt hk, fun _ _ _ _ h hc hS => h.keep hc hS⟩
section
variable (g m size : Nat) (s : ByteArray) (safe : Nat) (q : Pw)
theorem rlOwn {w w' : World} {O X Y : Nat → Prop} {s' : ByteArray} {safe' : Nat} {q' : Pw} (hO : ∀ k, O k ↔ X k ∨ Y k) (hY : ∀ k, Y k ↔ k = m) {X' : Nat → Prop} (h : Rl w' g m X' size s' safe') (hf : Fresh w X X') (hm : Mn w' m q') (hc : Chg (MO m X) w w') :
    Own w O w' (aRl g m size s' safe' * aMn m q') :=
  ⟨⟨fun k => X' k ∨ k = m, ⟨X', (· = m), h, ⟨hm, fun _ => Iff.rfl⟩, fun k h1 h2 => h.notm (h2 ▸ h1), fun _ => Iff.rfl⟩, fun k hk => by
    rcases hk with hk | hk
    · exact (hf k hk).elim (fun x => Or.inl ((hO k).2 (Or.inl x))) Or.inr
    · exact Or.inl ((hO k).2 (Or.inr ((hY k).2 hk)))⟩, hc.mono (fun i _ hi => by
    rcases hi with hi | hi
    · exact (hO i).2 (Or.inr ((hY i).2 hi))
    · exact (hO i).2 (Or.inl hi))⟩
theorem tNew (n : Int) : TrE Tryd.prog 6 #[.pointer (some ⟨m, 0, none⟩), .int .i64 n] (aMn m q) (fun g => .pointer (some ⟨g, 0, none⟩)) (fun g => aRl g m (nearR n) ⟨#[]⟩ 0 * aMn m q) := fun w O h =>
  (New_any m n w h.1.lt).mono fun e w' ⟨he, ⟨X, hr, hf⟩, hb⟩ => ⟨w.heap.size, he, rlOwn _ m _ (X := fun _ => False) (fun k => by simp) h.2 hr hf (h.1.keep (S := fun _ => False) (Chg.of_below hb) id) (Chg.of_below hb)⟩
theorem tAppend_ok (x : ByteArray) (hx : (x.size : Int) ≤ (size : Int) - s.size) (hq : q.ans = 0) :
    Tr Tryd.prog 30 #[.pointer (some ⟨g, 0, none⟩), .string x] (aRl g m size s safe * aMn m q) (.int .i64 0) (aRl g m size (s ++ x) safe * aMn m q.use) := fun w O ⟨X, Y, h, hm, hd, hO⟩ =>
  (Append_ok g m X size s safe q x w h hm.1 hx hq).mono fun e w' ⟨he, ⟨X', hr, hf⟩, hm', hc⟩ => ⟨he, rlOwn _ _ _ hO hm.2 hr hf hm' hc⟩
theorem tAppend_down (x : ByteArray) (hx : (x.size : Int) ≤ (size : Int) - s.size) (hq : q.ans = 4) :
    Tr Tryd.prog 30 #[.pointer (some ⟨g, 0, none⟩), .string x] (aRl g m size s safe * aMn m q) (.int .i64 4) (aRl g m size s safe * aMn m q.use) := fun w O ⟨X, Y, h, hm, hd, hO⟩ =>
  (Append_down g m X size s safe q x w h hm.1 hx hq).mono fun e w' ⟨he, hm', hc⟩ => ⟨he, rlOwn _ _ _ hO hm.2 (h.pow hc) (Fresh.refl _ _) hm' (hc.mono (fun _ _ e => Or.inl e))⟩
theorem qAppend_full (x : ByteArray) (hx : (size : Int) - s.size < x.size) :
    Qt Tryd.prog 30 #[.pointer (some ⟨g, 0, none⟩), .string x] (aRl g m size s safe) (.int .i64 5) := fun w O h => Append_full g m O size s safe x w h hx
theorem tSync_ok (hq : q.ans = 0) :
    Tr Tryd.prog 37 #[.pointer (some ⟨g, 0, none⟩)] (aRl g m size s safe * aMn m q) (.int .i64 0) (aRl g m size s s.size * aMn m q.use) := fun w O ⟨X, Y, h, hm, hd, hO⟩ =>
  (Sync_ok g m X size s safe q w h hm.1 hq).mono fun e w' ⟨he, hr, hm', hc⟩ => ⟨he, rlOwn _ _ _ hO hm.2 hr (Fresh.refl _ _) hm' hc⟩
theorem tSync_down (hq : q.ans = 4) :
    Tr Tryd.prog 37 #[.pointer (some ⟨g, 0, none⟩)] (aRl g m size s safe * aMn m q) (.int .i64 4) (aRl g m size s safe * aMn m q.use) := fun w O ⟨X, Y, h, hm, hd, hO⟩ =>
  (Sync_down g m X size s safe q w h hm.1 hq).mono fun e w' ⟨he, hm', hc⟩ => ⟨he, rlOwn _ _ _ hO hm.2 (h.pow hc) (Fresh.refl _ _) hm' (hc.mono (fun _ _ e => Or.inl e))⟩
theorem qTrim_arg (n : Int) (hn : trimW s n) :
    Qt Tryd.prog 26 #[.pointer (some ⟨g, 0, none⟩), .int .i64 n] (aRl g m size s safe) (.int .i64 1) := fun w O h => (Trim_arg g m O size s safe w n h hn).mono fun e w' ⟨he, hw⟩ => ⟨he, 0, hw.symm⟩
theorem tTrim_ok (n : Nat) (hn : n ≤ s.size) (hq : q.ans = 0) :
    Tr Tryd.prog 26 #[.pointer (some ⟨g, 0, none⟩), .int .i64 n] (aRl g m size s safe * aMn m q) (.int .i64 0) (aRl g m size (s.extract 0 n) n * aMn m q.use) := fun w O ⟨X, Y, h, hm, hd, hO⟩ =>
  (Trim_ok g m X size s safe q w n h hm.1 hn hq).mono fun e w' ⟨he, hr, hm', hc⟩ => ⟨he, rlOwn _ _ _ hO hm.2 hr (Fresh.refl _ _) hm' hc⟩
theorem tTrim_down (n : Nat) (hn : n ≤ s.size) (hq : q.ans = 4) :
    Tr Tryd.prog 26 #[.pointer (some ⟨g, 0, none⟩), .int .i64 n] (aRl g m size s safe * aMn m q) (.int .i64 4) (aRl g m size s safe * aMn m q.use) := fun w O ⟨X, Y, h, hm, hd, hO⟩ =>
  (Trim_down g m X size s safe q w n h hm.1 hn hq).mono fun e w' ⟨he, hm', hc⟩ => ⟨he, rlOwn _ _ _ hO hm.2 (h.pow hc) (Fresh.refl _ _) hm' (hc.mono (fun _ _ e => Or.inl e))⟩
theorem qRead : Qt Tryd.prog 24 #[.pointer (some ⟨g, 0, none⟩)] (aRl g m size s safe * aMn m q) (readV q s) := fun w O ⟨X, Y, h, hm, hd, hO⟩ => (Read_any g m X size s safe q w h hm.1).mono fun e w' ⟨he, hw⟩ => ⟨he, 0, hw.symm⟩
theorem qRead_on (hq : q.on = true) : Qt Tryd.prog 24 #[.pointer (some ⟨g, 0, none⟩)] (aRl g m size s safe * aMn m q) (.tuple #[.string s, .int .i64 0]) := by
  have := qRead g m size s safe q; unfold readV at this; rw [if_pos hq] at this; exact this
theorem qRead_off (hq : q.on = false) : Qt Tryd.prog 24 #[.pointer (some ⟨g, 0, none⟩)] (aRl g m size s safe * aMn m q) (.tuple #[.string ⟨#[]⟩, .int .i64 4]) := by
  have := qRead g m size s safe q; unfold readV at this; rw [if_neg (by simp [hq])] at this; exact this
theorem qLen : Qt Tryd.prog 29 #[.pointer (some ⟨g, 0, none⟩)] (aRl g m size s safe) (.int .i64 s.size) := fun w O h => (Len_any g m O size s safe w h).mono fun e w' ⟨he, hw⟩ => ⟨he, 0, hw.symm⟩
theorem qSafe : Qt Tryd.prog 54 #[.pointer (some ⟨g, 0, none⟩)] (aRl g m size s safe) (.int .i64 safe) := fun w O h => (Safe_any g m O size s safe w h).mono fun e w' ⟨he, hw⟩ => ⟨he, 0, hw.symm⟩
theorem qLeft : Qt Tryd.prog 38 #[.pointer (some ⟨g, 0, none⟩)] (aRl g m size s safe) (.int .i64 ((size : Int) - (s.size : Int))) := fun w O h => Left_any g m O size s safe w h
end
/-! The document's reel. -/
def rrRow (s : ByteArray) (safe size : Nat) : Array Value := #[.string s, .int .i64 safe, .int .i64 size]
end Go.Proofs.YtaacinhmgmmcaaaDoor.Rl
end
