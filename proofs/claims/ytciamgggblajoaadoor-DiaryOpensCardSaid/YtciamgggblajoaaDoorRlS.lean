import Derived.Test.YtciamgggblajoaaDoorRlD
import Derived.Test.YtciamgggblajoaaDoorMnS
namespace Go.Proofs.YtciamgggblajoaaDoor.Rl
open Go.ChangeShapes Go.WideShapes Go.ChangeAt Go.RowKit Go.PlainAid Aid Mn
set_option linter.unusedVariables false
set_option linter.unusedSimpArgs false
/-! A reel as what is owned; its power apart. -/
def aRl (g m size : Nat) (s : ByteArray) (safe : Nat) : Asn :=
  ⟨fun w O => Rl w g m O size s safe, fun _ _ h k hk => h.lt hk, fun _ _ _ _ h hc hS => h.keep hc hS⟩
section
variable (g m size : Nat) (s : ByteArray) (safe : Nat) (q : Pw)
theorem rlOwn {w w' : World} {O X Y : Nat → Prop} {s' : ByteArray} {safe' : Nat} {q' : Pw} (hO : ∀ k, O k ↔ X k ∨ Y k) (hY : ∀ k, Y k ↔ k = m) {X' : Nat → Prop} (h : Rl w' g m X' size s' safe') (hf : Fresh w X X') (hm : Mn w' m q') (hc : Chg (MO m X) w w') :
    Own w O w' (aRl g m size s' safe' * aMn m q') :=
  ⟨⟨fun k => X' k ∨ k = m, ⟨X', (· = m), h, ⟨hm, fun _ => Iff.rfl⟩, fun k h1 h2 => h.notm (h2 ▸ h1), fun _ => Iff.rfl⟩, fun k hk => by
    rcases hk with hk | hk
    · exact (hf k hk).elim (fun x => Or.inl ((hO k).2 (Or.inl x))) Or.inr
    · exact Or.inl ((hO k).2 (Or.inr ((hY k).2 hk)))⟩, hc.mono (fun i _ hi => by
    rcases hi with hi | hi
    · exact (hO i).2 (Or.inr ((hY i).2 hi))
    · exact (hO i).2 (Or.inl hi))⟩
theorem tNew (n : Int) : TrE Tryd.prog 20 #[.pointer (some ⟨m, 0, none⟩), .int .i64 n] (aMn m q) (fun g => .pointer (some ⟨g, 0, none⟩)) (fun g => aRl g m (nearR n) ⟨#[]⟩ 0 * aMn m q) := fun w O h =>
  (New_any m n w h.1.lt).mono fun e w' ⟨he, ⟨X, hr, hf⟩, hb⟩ => ⟨w.heap.size, he, rlOwn _ m _ (X := fun _ => False) (fun k => by simp) h.2 hr hf (h.1.keep (S := fun _ => False) (Chg.of_below hb) id) (Chg.of_below hb)⟩
theorem tAppend_ok (x : ByteArray) (hx : (x.size : Int) ≤ (size : Int) - s.size) (hq : q.ans = 0) :
    Tr Tryd.prog 35 #[.pointer (some ⟨g, 0, none⟩), .string x] (aRl g m size s safe * aMn m q) (.int .i64 0) (aRl g m size (s ++ x) safe * aMn m q.use) := fun w O ⟨X, Y, h, hm, hd, hO⟩ =>
  (Append_ok g m X size s safe q x w h hm.1 hx hq).mono fun e w' ⟨he, ⟨X', hr, hf⟩, hm', hc⟩ => ⟨he, rlOwn _ _ _ hO hm.2 hr hf hm' hc⟩
theorem tAppend_down (x : ByteArray) (hx : (x.size : Int) ≤ (size : Int) - s.size) (hq : q.ans = 4) :
    Tr Tryd.prog 35 #[.pointer (some ⟨g, 0, none⟩), .string x] (aRl g m size s safe * aMn m q) (.int .i64 4) (aRl g m size s safe * aMn m q.use) := fun w O ⟨X, Y, h, hm, hd, hO⟩ =>
  (Append_down g m X size s safe q x w h hm.1 hx hq).mono fun e w' ⟨he, hm', hc⟩ => ⟨he, rlOwn _ _ _ hO hm.2 (h.pow hc) (Fresh.refl _ _) hm' (hc.mono (fun _ _ e => Or.inl e))⟩
theorem qAppend_full (x : ByteArray) (hx : (size : Int) - s.size < x.size) :
    Qt Tryd.prog 35 #[.pointer (some ⟨g, 0, none⟩), .string x] (aRl g m size s safe) (.int .i64 5) := fun w O h => Append_full g m O size s safe x w h hx
theorem tSync_ok (hq : q.ans = 0) :
    Tr Tryd.prog 71 #[.pointer (some ⟨g, 0, none⟩)] (aRl g m size s safe * aMn m q) (.int .i64 0) (aRl g m size s s.size * aMn m q.use) := fun w O ⟨X, Y, h, hm, hd, hO⟩ =>
  (Sync_ok g m X size s safe q w h hm.1 hq).mono fun e w' ⟨he, hr, hm', hc⟩ => ⟨he, rlOwn _ _ _ hO hm.2 hr (Fresh.refl _ _) hm' hc⟩
theorem tSync_down (hq : q.ans = 4) :
    Tr Tryd.prog 71 #[.pointer (some ⟨g, 0, none⟩)] (aRl g m size s safe * aMn m q) (.int .i64 4) (aRl g m size s safe * aMn m q.use) := fun w O ⟨X, Y, h, hm, hd, hO⟩ =>
  (Sync_down g m X size s safe q w h hm.1 hq).mono fun e w' ⟨he, hm', hc⟩ => ⟨he, rlOwn _ _ _ hO hm.2 (h.pow hc) (Fresh.refl _ _) hm' (hc.mono (fun _ _ e => Or.inl e))⟩
theorem qTrim_arg (n : Int) (hn : trimW s n) :
    Qt Tryd.prog 67 #[.pointer (some ⟨g, 0, none⟩), .int .i64 n] (aRl g m size s safe) (.int .i64 1) := fun w O h => (Trim_arg g m O size s safe w n h hn).mono fun e w' ⟨he, hw⟩ => ⟨he, 0, hw.symm⟩
theorem tTrim_ok (n : Nat) (hn : n ≤ s.size) (hq : q.ans = 0) :
    Tr Tryd.prog 67 #[.pointer (some ⟨g, 0, none⟩), .int .i64 n] (aRl g m size s safe * aMn m q) (.int .i64 0) (aRl g m size (s.extract 0 n) n * aMn m q.use) := fun w O ⟨X, Y, h, hm, hd, hO⟩ =>
  (Trim_ok g m X size s safe q w n h hm.1 hn hq).mono fun e w' ⟨he, hr, hm', hc⟩ => ⟨he, rlOwn _ _ _ hO hm.2 hr (Fresh.refl _ _) hm' hc⟩
theorem tTrim_down (n : Nat) (hn : n ≤ s.size) (hq : q.ans = 4) :
    Tr Tryd.prog 67 #[.pointer (some ⟨g, 0, none⟩), .int .i64 n] (aRl g m size s safe * aMn m q) (.int .i64 4) (aRl g m size s safe * aMn m q.use) := fun w O ⟨X, Y, h, hm, hd, hO⟩ =>
  (Trim_down g m X size s safe q w n h hm.1 hn hq).mono fun e w' ⟨he, hm', hc⟩ => ⟨he, rlOwn _ _ _ hO hm.2 (h.pow hc) (Fresh.refl _ _) hm' (hc.mono (fun _ _ e => Or.inl e))⟩
theorem qSettle_on (n : Int) (hq : q.on = true) :
    Qt Tryd.prog 40 #[.pointer (some ⟨g, 0, none⟩), .int .i64 n] (aRl g m size s safe * aMn m q) (.int .i64 13) := fun w O ⟨X, Y, h, hm, hd, hO⟩ => (Settle_on g m X size s safe q w n h hm.1 hq).mono fun e w' ⟨he, hw⟩ => ⟨he, 0, hw.symm⟩
theorem tSettle_off (keep : Int) (hq : q.on = false) :
    Tr Tryd.prog 40 #[.pointer (some ⟨g, 0, none⟩), .int .i64 keep] (aRl g m size s safe * aMn m q) (.int .i64 0) (aRl g m size (s.extract 0 (safe + stayK keep (s.size - safe))) (safe + stayK keep (s.size - safe)) * aMn m q) := fun w O ⟨X, Y, h, hm, hd, hO⟩ =>
  (Settle_off g m X size s safe q w keep h hm.1 hq).mono fun e w' ⟨he, hr, hm', hc⟩ => ⟨he, rlOwn _ _ _ hO hm.2 hr (Fresh.refl _ _) hm' (hc.mono (fun _ _ e => Or.inr e))⟩
theorem qRead : Qt Tryd.prog 65 #[.pointer (some ⟨g, 0, none⟩)] (aRl g m size s safe * aMn m q) (readV q s) := fun w O ⟨X, Y, h, hm, hd, hO⟩ => (Read_any g m X size s safe q w h hm.1).mono fun e w' ⟨he, hw⟩ => ⟨he, 0, hw.symm⟩
theorem qRead_on (hq : q.on = true) : Qt Tryd.prog 65 #[.pointer (some ⟨g, 0, none⟩)] (aRl g m size s safe * aMn m q) (.tuple #[.string s, .int .i64 0]) := by
  have := qRead g m size s safe q; unfold readV at this; rw [if_pos hq] at this; exact this
theorem qRead_off (hq : q.on = false) : Qt Tryd.prog 65 #[.pointer (some ⟨g, 0, none⟩)] (aRl g m size s safe * aMn m q) (.tuple #[.string ⟨#[]⟩, .int .i64 4]) := by
  have := qRead g m size s safe q; unfold readV at this; rw [if_neg (by simp [hq])] at this; exact this
theorem qLen : Qt Tryd.prog 37 #[.pointer (some ⟨g, 0, none⟩)] (aRl g m size s safe) (.int .i64 s.size) := fun w O h => (Len_any g m O size s safe w h).mono fun e w' ⟨he, hw⟩ => ⟨he, 0, hw.symm⟩
theorem qSafe : Qt Tryd.prog 38 #[.pointer (some ⟨g, 0, none⟩)] (aRl g m size s safe) (.int .i64 safe) := fun w O h => (Safe_any g m O size s safe w h).mono fun e w' ⟨he, hw⟩ => ⟨he, 0, hw.symm⟩
theorem qLeft : Qt Tryd.prog 72 #[.pointer (some ⟨g, 0, none⟩)] (aRl g m size s safe) (.int .i64 ((size : Int) - (s.size : Int))) := fun w O h => Left_any g m O size s safe w h
end
/-! The document's reel. -/
def rrRow (s : ByteArray) (safe size : Nat) : Array Value := #[.string s, .int .i64 safe, .int .i64 size]
end Go.Proofs.YtciamgggblajoaaDoor.Rl
