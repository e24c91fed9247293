import Derived.Test.YtpfedfogoobonaaSep
import Derived.Test.YtpfedfogoobonaaMnExact
import Derived.Test.YtpfedfogoobonaaArgs
namespace Go.Proofs.Ytpfedfogoobonaa.Mn
open Go.ChangeShapes Go.WideShapes Go.ChangeAt Go.RowKit Go.PlainAid Aid
set_option linter.unusedVariables false
set_option linter.unusedSimpArgs false
/-! Power, and the document's, as what is owned. -/
def aMn (g : Nat) (q : Pw) : Asn :=
  ⟨fun w O => Mn w g q ∧ ∀ k, O k ↔ k = g, fun _ _ h k hk => by rw [(h.2 k).1 hk]; exact h.1.lt, fun _ _ _ _ h hc hS => ⟨h.1.keep hc (hS g ((h.2 g).2 rfl)), h.2⟩⟩
def aRf (g : Nat) (q : Pw) : Asn :=
  ⟨fun w O => Rf w g q ∧ ∀ k, O k ↔ k = g, fun _ _ h k hk => by rw [(h.2 k).1 hk]; exact h.1.lt, fun _ _ _ _ h hc hS => ⟨h.1.keep hc (hS g ((h.2 g).2 rfl)), h.2⟩⟩
theorem mnOwn {w w' : World} {O : Nat → Prop} {g : Nat} {q : Pw} (hO : ∀ k, O k ↔ k = g) (h : Mn w' g q) (hc : Chg (· = g) w w') : Own w O w' (aMn g q) :=
  ⟨⟨O, ⟨h, hO⟩, Fresh.refl _ _⟩, hc.mono (fun i _ e => (hO i).2 e)⟩
theorem rfOwn {w w' : World} {O : Nat → Prop} {g : Nat} {q : Pw} (hO : ∀ k, O k ↔ k = g) (h : Rf w' g q) (hc : Chg (· = g) w w') : Own w O w' (aRf g q) :=
  ⟨⟨O, ⟨h, hO⟩, Fresh.refl _ _⟩, hc.mono (fun i _ e => (hO i).2 e)⟩
section
variable (g : Nat) (q : Pw)
theorem tNew : TrE Try.prog 7 #[] Asn.emp (fun g => .pointer (some ⟨g, 0, none⟩)) (fun g => aMn g ⟨true, -1, 1⟩) := fun w O h =>
  (New_any w).mono fun e w' ⟨he, hm, hb⟩ => ⟨w.heap.size, he, ⟨⟨(· = w.heap.size), ⟨hm, fun _ => Iff.rfl⟩, fun k hk => Or.inr (by omega)⟩, Chg.of_below hb⟩⟩
theorem tUse (a : Int) (ha : q.ans = a) : Tr Try.prog 23 #[.pointer (some ⟨g, 0, none⟩)] (aMn g q) (.int .i64 a) (aMn g q.use) := fun w O h =>
  (Use_as g q w h.1 a _ ha rfl).mono fun e w' ⟨he, hm, hb⟩ => ⟨he, mnOwn h.2 hm hb⟩
theorem tOff : Tr Try.prog 16 #[.pointer (some ⟨g, 0, none⟩)] (aMn g q) (.tuple #[]) (aMn g q.off) := fun w O h =>
  (Off_any g q w h.1).mono fun e w' ⟨he, hm, hb⟩ => ⟨he, mnOwn h.2 hm hb⟩
theorem tOn : Tr Try.prog 17 #[.pointer (some ⟨g, 0, none⟩)] (aMn g q) (.tuple #[]) (aMn g q.come) := fun w O h =>
  (On_any g q w h.1).mono fun e w' ⟨he, hm, hb⟩ => ⟨he, mnOwn h.2 hm hb⟩
theorem tFuse (n : Int) (hn : I64 n) : Tr Try.prog 18 #[.pointer (some ⟨g, 0, none⟩), .int .i64 n] (aMn g q) (.tuple #[]) (aMn g (q.lay n)) := fun w O h =>
  (Fuse_any g q n w h.1 hn.1 hn.2).mono fun e w' ⟨he, hm, hb⟩ => ⟨he, mnOwn h.2 hm hb⟩
theorem qIsOn : Qt Try.prog 25 #[.pointer (some ⟨g, 0, none⟩)] (aMn g q) (.bool q.on) := fun w O h =>
  (IsOn_any g q w h.1).mono fun e w' ⟨he, hw⟩ => ⟨he, 0, hw.symm⟩
theorem dUse (n a : Int) (ha : q.ans = a) : Tr Try.prog 11 #[.pointer (some ⟨g, 0, none⟩), .int .i64 1, .int .i64 n] (aRf g q) (.int .i64 a) (aRf g q.use) := fun w O h =>
  (Do_use g q n w h.1).mono fun e w' ⟨he, hm, hb⟩ => ⟨ha ▸ he, rfOwn h.2 hm hb⟩
theorem dOff : Tr Try.prog 11 #[.pointer (some ⟨g, 0, none⟩), .int .i64 3, .int .i64 0] (aRf g q) (.int .i64 0) (aRf g q.off) := fun w O h =>
  (Do_any g q 3 0 w h.1 (by decide) (by decide)).mono fun e w' ⟨he, hm, hb⟩ => ⟨by rw [he, show q.said 3 = 0 by simp [Pw.said]], by rw [show q.did 3 0 = q.off by simp [Pw.did]] at hm; exact rfOwn h.2 hm hb⟩
theorem dOn : Tr Try.prog 11 #[.pointer (some ⟨g, 0, none⟩), .int .i64 4, .int .i64 0] (aRf g q) (.int .i64 0) (aRf g q.come) := fun w O h =>
  (Do_any g q 4 0 w h.1 (by decide) (by decide)).mono fun e w' ⟨he, hm, hb⟩ => ⟨by rw [he, show q.said 4 = 0 by simp [Pw.said]], by rw [show q.did 4 0 = q.come by simp [Pw.did]] at hm; exact rfOwn h.2 hm hb⟩
theorem dFuse (n : Int) (hn : I64 n) : Tr Try.prog 11 #[.pointer (some ⟨g, 0, none⟩), .int .i64 2, .int .i64 n] (aRf g q) (.int .i64 0) (aRf g (q.lay (if n < 0 then -1 else n))) := fun w O h =>
  (Do_any g q 2 n w h.1 hn.1 hn.2).mono fun e w' ⟨he, hm, hb⟩ => ⟨by rw [he, show q.said 2 = 0 by simp [Pw.said]], by rw [show q.did 2 n = q.lay (if n < 0 then -1 else n) by simp [Pw.did]] at hm; exact rfOwn h.2 hm hb⟩
end
theorem has_rf (g : Nat) (q : Pw) : Has (aRf g q) g 28 q.row := fun _ _ h => h.1.1
theorem has_mn (g : Nat) (q : Pw) : Has (aMn g q) g 52 q.row := fun _ _ h => h.1.1
theorem imp_rf (g : Nat) : Imp (Asn.blk g 28 #[.bool true, .int .i64 (-1), .int .i64 1]) (aRf g ⟨true, -1, 1⟩) := fun _ _ h => ⟨⟨h.1, by unfold Pw.ok; decide⟩, h.2⟩
end Go.Proofs.Ytpfedfogoobonaa.Mn
