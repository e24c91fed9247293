import Derived.Test.YtciamgggblajoaaDoorSep
import Derived.Test.YtciamgggblajoaaDoorMnExact
import Derived.Test.YtciamgggblajoaaDoorArgs
namespace Go.Proofs.YtciamgggblajoaaDoor.Mn
open Go.ChangeShapes Go.WideShapes Go.ChangeAt Go.RowKit Go.PlainAid Aid
set_option linter.unusedVariables false
set_option linter.unusedSimpArgs false
/-! Power, and the document's, as what is owned. -/
def aMn (g : Nat) (q : Pw) : Asn :=
  ⟨fun w O => Mn w g q ∧ ∀ k, O k ↔ k = g, fun _ _ h k hk => by rw [(h.2 k).1 hk]; exact h.1.lt, fun _ _ _ _ h hc hS => ⟨h.1.keep hc (hS g ((h.2 g).2 rfl)), h.2⟩⟩
theorem mnOwn {w w' : World} {O : Nat → Prop} {g : Nat} {q : Pw} (hO : ∀ k, O k ↔ k = g) (h : Mn w' g q) (hc : Chg (· = g) w w') : Own w O w' (aMn g q) :=
  ⟨⟨O, ⟨h, hO⟩, Fresh.refl _ _⟩, hc.mono (fun i _ e => (hO i).2 e)⟩
section
variable (g : Nat) (q : Pw)
theorem tNew : TrE Tryd.prog 21 #[] Asn.emp (fun g => .pointer (some ⟨g, 0, none⟩)) (fun g => aMn g ⟨true, -1, 1⟩) := fun w O h =>
  (New_any w).mono fun e w' ⟨he, hm, hb⟩ => ⟨w.heap.size, he, ⟨⟨(· = w.heap.size), ⟨hm, fun _ => Iff.rfl⟩, fun k hk => Or.inr (by omega)⟩, Chg.of_below hb⟩⟩
theorem tUse (a : Int) (ha : q.ans = a) : Tr Tryd.prog 73 #[.pointer (some ⟨g, 0, none⟩)] (aMn g q) (.int .i64 a) (aMn g q.use) := fun w O h =>
  (Use_as g q w h.1 a _ ha rfl).mono fun e w' ⟨he, hm, hb⟩ => ⟨he, mnOwn h.2 hm hb⟩
theorem tOff : Tr Tryd.prog 39 #[.pointer (some ⟨g, 0, none⟩)] (aMn g q) (.tuple #[]) (aMn g q.off) := fun w O h =>
  (Off_any g q w h.1).mono fun e w' ⟨he, hm, hb⟩ => ⟨he, mnOwn h.2 hm hb⟩
theorem tOn : Tr Tryd.prog 41 #[.pointer (some ⟨g, 0, none⟩)] (aMn g q) (.tuple #[]) (aMn g q.come) := fun w O h =>
  (On_any g q w h.1).mono fun e w' ⟨he, hm, hb⟩ => ⟨he, mnOwn h.2 hm hb⟩
theorem qIsOn : Qt Tryd.prog 74 #[.pointer (some ⟨g, 0, none⟩)] (aMn g q) (.bool q.on) := fun w O h =>
  (IsOn_any g q w h.1).mono fun e w' ⟨he, hw⟩ => ⟨he, 0, hw.symm⟩
end
theorem has_mn (g : Nat) (q : Pw) : Has (aMn g q) g 124 q.row := fun _ _ h => h.1.1
end Go.Proofs.YtciamgggblajoaaDoor.Mn
