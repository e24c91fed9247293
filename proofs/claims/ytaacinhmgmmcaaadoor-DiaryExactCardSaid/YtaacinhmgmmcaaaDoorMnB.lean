import Derived.Test.YtaacinhmgmmcaaaDoorChg
import Derived.Test.YtaacinhmgmmcaaaDoorChecked
namespace Go.Proofs.YtaacinhmgmmcaaaDoor.Mn
open Go.ChangeShapes Go.WideShapes Go.ChangeAt Go.RowKit Go.PlainAid Aid
set_option linter.unusedVariables false
set_option linter.unusedSimpArgs false

/-- Power's state. -/
structure Pw where
  on : Bool
  fuse : Int
  boots : Int
def Pw.off (p : Pw) : Pw := { p with on := false }
def Pw.lay (p : Pw) (n : Int) : Pw := { p with fuse := n }
def Pw.come (p : Pw) : Pw := if p.on then p else ⟨true, -1, wrap64 (p.boots + 1)⟩
def Pw.use (p : Pw) : Pw := if p.fuse = 0 then p.off else if p.on = false then p else if 0 < p.fuse then { p with fuse := p.fuse - 1 } else p
def Pw.ans (p : Pw) : Int := if p.fuse = 0 then 4 else if p.on = false then 4 else 0
def Pw.ok (p : Pw) : Prop := -9223372036854775808 ≤ p.fuse ∧ p.fuse ≤ 9223372036854775807 ∧ -9223372036854775808 ≤ p.boots ∧ p.boots ≤ 9223372036854775807
def Pw.row (p : Pw) : Array Value := #[.bool p.on, .int .i64 p.fuse, .int .i64 p.boots]
/-- Power that lies in block g. -/
def Mn (w : World) (g : Nat) (p : Pw) : Prop := Blk w g 73 p.row ∧ p.ok
theorem Mn.keep {S : Nat → Prop} {w w' : World} {g : Nat} {p : Pw} (h : Mn w g p) (hb : Chg S w w') (hs : ¬ S g) : Mn w' g p := ⟨h.1.keep hb hs, h.2⟩
theorem Mn.drewN {w : World} {g : Nat} {p : Pw} (h : Mn w g p) (n : Nat) : Mn (w.drewN n) g p := h
theorem Mn.lt {w : World} {g : Nat} {p : Pw} (h : Mn w g p) : g < w.heap.size := h.1.lt
theorem wrap64_bd (n : Int) : -9223372036854775808 ≤ wrap64 n ∧ wrap64 n ≤ 9223372036854775807 := by unfold wrap64; omega

set_option maxHeartbeats 400000 in
theorem New_any (w : World) :
    Calls Tryd.prog 7 #[] w fun e w' => e = .returned (.pointer (some ⟨w.heap.size, 0, none⟩)) ∧ Mn w' w.heap.size ⟨true, -1, 1⟩ ∧ Below w.heap.size w w' := by
  go_enter Tryd.func7, Tryd.ntmps7
  go_wp2_with fail
  go_returns
  refine ⟨rfl, ⟨Blk.new _ _ _, by unfold Pw.ok; decide⟩, ?_⟩
  go_grown

theorem Mn.facts {w : World} {g : Nat} {p : Pw} (h : Mn w g p) : w.cell? ⟨g, 0, none⟩ = some (.bool p.on) ∧ w.cell? ⟨g, 1, none⟩ = some (.int .i64 p.fuse) ∧ w.cell? ⟨g, 2, none⟩ = some (.int .i64 p.boots) ∧ w.frozen? ⟨g, 0, none⟩ = false ∧ w.frozen? ⟨g, 1, none⟩ = false ∧ w.frozen? ⟨g, 2, none⟩ = false :=
  ⟨h.1.cell 0, h.1.cell 1, h.1.cell 2, h.1.free 0, h.1.free 1, h.1.free 2⟩

set_option maxHeartbeats 400000 in
theorem IsOn_any (g : Nat) (p : Pw) (w : World) (h : Mn w g p) :
    Calls Tryd.prog 40 #[.pointer (some ⟨g, 0, none⟩)] w fun e w' => e = .returned (.bool p.on) ∧ w = w' := by
  obtain ⟨c0, c1, c2, f0, f1, f2⟩ := h.facts
  have H := Lib.hid h
  clear h
  go_enter Tryd.func40, Tryd.ntmps40
  go_wp2_with fail
  go_returns
  exact ⟨rfl, rfl⟩
set_option maxHeartbeats 400000 in
theorem Use_any (g : Nat) (p : Pw) (w : World) (h : Mn w g p) :
    Calls Tryd.prog 41 #[.pointer (some ⟨g, 0, none⟩)] w fun e w' => e = .returned (.int .i64 p.ans) ∧ Mn w' g p.use ∧ Chg (· = g) w w' := by
  obtain ⟨c0, c1, c2, f0, f1, f2⟩ := h.facts
  have H := Lib.hid h
  have hk := h.2
  obtain ⟨o, f, b⟩ := p
  simp only [Pw.ok] at c0 c1 c2 hk
  obtain ⟨k0, k1, -, -⟩ := hk
  clear h
  by_cases hf : f = 0
  · subst hf
    go_enter Tryd.func41, Tryd.ntmps41
    go_wp2_with fail
    go_returns
    exact ⟨rfl, ⟨H.out.1.set 0 _, H.out.2⟩, (Chg.refl _ _).set1 _ _⟩
  · have hd : (f == 0) = false := beq_eq_false_iff_ne.2 hf
    cases o
    · have e1 : (Pw.mk false f b).ans = 4 := by simp [Pw.ans, hf]
      have e2 : (Pw.mk false f b).use = ⟨false, f, b⟩ := by simp [Pw.use, hf]
      rw [e1, e2]
      clear e1 e2 hf
      go_enter Tryd.func41, Tryd.ntmps41
      go_wp2_with fail
      go_returns
      exact ⟨rfl, H.out, Chg.refl _ _⟩
    · have e1 : (Pw.mk true f b).ans = 0 := by simp [Pw.ans, hf]
      rw [e1]
      by_cases hp : 0 < f
      · have e2 : (Pw.mk true f b).use = ⟨true, f - 1, b⟩ := by simp [Pw.use, hf, hp]
        rw [e2]
        have ho := H.out.2
        have e : Array.setIfInBounds (Pw.mk true f b).row 1 (.int .i64 (f - 1)) = (Pw.mk true (f - 1) b).row := rfl
        have HE := Lib.hid e
        have HO := Lib.hid ho
        clear e1 e2 hf e ho
        go_enter Tryd.func41, Tryd.ntmps41
        go_wp2_with fail
        go_returns
        exact ⟨rfl, ⟨H.out.1.set 1 _, by show _ ≤ f - 1; omega, by show f - 1 ≤ _; omega, HO.out.2.2.1, HO.out.2.2.2⟩, (Chg.refl _ _).set1 _ _⟩
      · have e2 : (Pw.mk true f b).use = ⟨true, f, b⟩ := by simp [Pw.use, hf, hp]
        rw [e2]
        have hq : decide (0 < f) = false := by simpa using hp
        clear e1 e2 hf hp
        go_enter Tryd.func41, Tryd.ntmps41
        go_wp2_with fail
        go_returns
        exact ⟨rfl, H.out, Chg.refl _ _⟩

theorem Use_as (g : Nat) (p : Pw) (w : World) (h : Mn w g p) (a : Int) (p' : Pw) (ha : p.ans = a) (hp : p.use = p') :
    Calls Tryd.prog 41 #[.pointer (some ⟨g, 0, none⟩)] w fun e w' => e = .returned (.int .i64 a) ∧ Mn w' g p' ∧ Chg (· = g) w w' := by
  subst ha; subst hp; exact Use_any g p w h
/-! Of nil. -/
theorem Use_nil (w : World) : Calls Tryd.prog 41 #[.pointer none] w fun e w' => e = .returned (.int .i64 2) ∧ w = w' := by
  go_enter Tryd.func41, Tryd.ntmps41
  go_wp2_with fail
  go_returns
  exact ⟨rfl, rfl⟩
theorem IsOn_nil (w : World) : Calls Tryd.prog 40 #[.pointer none] w fun e w' => e = .returned (.bool false) ∧ w = w' := by
  go_enter Tryd.func40, Tryd.ntmps40
  go_wp2_with fail
  go_returns
  exact ⟨rfl, rfl⟩
end Go.Proofs.YtaacinhmgmmcaaaDoor.Mn
