import Derived.Test.YtpfedfogoobonaaMnB
namespace Go.Proofs.Ytpfedfogoobonaa.Mn
open Go.ChangeShapes Go.WideShapes Go.ChangeAt Go.RowKit Go.PlainAid Aid
set_option linter.unusedVariables false
set_option linter.unusedSimpArgs false

/-! The document's own answer. -/
def Rf (w : World) (g : Nat) (p : Pw) : Prop := Blk w g 28 p.row ∧ p.ok
theorem Rf.keep {S : Nat → Prop} {w w' : World} {g : Nat} {p : Pw} (h : Rf w g p) (hb : Chg S w w') (hs : ¬ S g) : Rf w' g p := ⟨h.1.keep hb hs, h.2⟩
theorem Rf.lt {w : World} {g : Nat} {p : Pw} (h : Rf w g p) : g < w.heap.size := h.1.lt
theorem Rf.facts {w : World} {g : Nat} {p : Pw} (h : Rf w g p) : w.cell? ⟨g, 0, none⟩ = some (.bool p.on) ∧ w.cell? ⟨g, 1, none⟩ = some (.int .i64 p.fuse) ∧ w.cell? ⟨g, 2, none⟩ = some (.int .i64 p.boots) ∧ w.frozen? ⟨g, 0, none⟩ = false ∧ w.frozen? ⟨g, 1, none⟩ = false ∧ w.frozen? ⟨g, 2, none⟩ = false :=
  ⟨h.1.cell 0, h.1.cell 1, h.1.cell 2, h.1.free 0, h.1.free 1, h.1.free 2⟩
def Pw.did (p : Pw) (act n : Int) : Pw := if act = 1 then p.use else if act = 2 then p.lay (if n < 0 then -1 else n) else if act = 3 then p.off else if act = 4 then p.come else p
def Pw.said (p : Pw) (act : Int) : Int := if act = 1 then p.ans else 0

set_option maxHeartbeats 400000 in
theorem Do_use (g : Nat) (p : Pw) (n : Int) (w : World) (h : Rf w g p) :
    Calls Try.prog 11 #[.pointer (some ⟨g, 0, none⟩), .int .i64 1, .int .i64 n] w fun e w' => e = .returned (.int .i64 p.ans) ∧ Rf w' g p.use ∧ Chg (· = g) w w' := by
  obtain ⟨c0, c1, c2, f0, f1, f2⟩ := h.facts
  have H := Lib.hid h
  have hk := h.2
  obtain ⟨o, f, b⟩ := p
  simp only [Pw.ok] at c0 c1 c2 hk
  obtain ⟨k0, k1, -, -⟩ := hk
  clear h
  cases o
  · have e1 : (Pw.mk false f b).ans = 4 := by simp [Pw.ans]
    have e2 : (Pw.mk false f b).use = ⟨false, f, b⟩ := by simp [Pw.use, Pw.off]
    rw [e1, e2]
    clear e1 e2
    go_enter Try.func11, Try.ntmps11
    go_wp2_with fail
    go_returns
    exact ⟨rfl, H.out, Chg.refl _ _⟩
  · by_cases hf : f = 0
    · subst hf
      go_enter Try.func11, Try.ntmps11
      go_wp2_with fail
      go_returns
      exact ⟨rfl, ⟨H.out.1.set 0 _, H.out.2⟩, (Chg.refl _ _).set1 _ _⟩
    · have hd : (f == 0) = false := beq_eq_false_iff_ne.2 hf
      have e1 : (Pw.mk true f b).ans = 0 := by simp [Pw.ans, hf]
      rw [e1]
      by_cases hp : 0 < f
      · have e2 : (Pw.mk true f b).use = ⟨true, f - 1, b⟩ := by simp [Pw.use, hf, hp]
        rw [e2]
        have HO := Lib.hid H.out.2
        clear e1 e2 hf
        go_enter Try.func11, Try.ntmps11
        go_wp2_with fail
        go_returns
        exact ⟨rfl, ⟨H.out.1.set 1 _, by show _ ≤ f - 1; omega, by show f - 1 ≤ _; omega, HO.out.2.2.1, HO.out.2.2.2⟩, (Chg.refl _ _).set1 _ _⟩
      · have e2 : (Pw.mk true f b).use = ⟨true, f, b⟩ := by simp [Pw.use, hf, hp]
        rw [e2]
        have hq : decide (0 < f) = false := by simpa using hp
        clear e1 e2 hf hp
        go_enter Try.func11, Try.ntmps11
        go_wp2_with fail
        go_returns
        exact ⟨rfl, H.out, Chg.refl _ _⟩

set_option maxHeartbeats 400000 in
theorem Do_any (g : Nat) (p : Pw) (act n : Int) (w : World) (h : Rf w g p) (n0 : -9223372036854775808 ≤ n) (n1 : n ≤ 9223372036854775807) :
    Calls Try.prog 11 #[.pointer (some ⟨g, 0, none⟩), .int .i64 act, .int .i64 n] w fun e w' => e = .returned (.int .i64 (p.said act)) ∧ Rf w' g (p.did act n) ∧ Chg (· = g) w w' := by
  by_cases a1 : act = 1
  · subst a1
    exact Do_use g p n w h
  obtain ⟨c0, c1, c2, f0, f1, f2⟩ := h.facts
  have H := Lib.hid h
  obtain ⟨k0, k1, k2, k3⟩ := h.2
  clear h
  have e1 : p.said act = 0 := by simp [Pw.said, a1]
  rw [e1]
  have d1 : (act == 1) = false := beq_eq_false_iff_ne.2 a1
  by_cases a2 : act = 2
  · subst a2
    by_cases hn : n < 0
    · have e2 : p.did 2 n = p.lay (-1) := by simp [Pw.did, hn]
      rw [e2]
      clear e1 e2 a1
      go_enter Try.func11, Try.ntmps11
      go_wp2_with fail
      go_returns
      exact ⟨rfl, ⟨(H.out.1.set 1 _).set 1 _, by show (-9223372036854775808 : Int) ≤ -1; decide, by show (-1 : Int) ≤ _; decide, H.out.2.2.2⟩, ((Chg.refl _ _).set1 _ _).set1 _ _⟩
    · have e2 : p.did 2 n = p.lay n := by simp [Pw.did, hn]
      rw [e2]
      have hn' : 0 ≤ n := by omega
      clear e1 e2 a1 hn
      go_enter Try.func11, Try.ntmps11
      go_wp2_with fail
      go_returns
      exact ⟨rfl, ⟨H.out.1.set 1 _, n0, n1, H.out.2.2.2⟩, (Chg.refl _ _).set1 _ _⟩
  have d2 : (act == 2) = false := beq_eq_false_iff_ne.2 a2
  by_cases a3 : act = 3
  · subst a3
    have e2 : p.did 3 n = p.off := by simp [Pw.did]
    rw [e2]
    clear e1 e2 a1 a2
    go_enter Try.func11, Try.ntmps11
    go_wp2_with fail
    go_returns
    exact ⟨rfl, ⟨H.out.1.set 0 _, H.out.2⟩, (Chg.refl _ _).set1 _ _⟩
  have d3 : (act == 3) = false := beq_eq_false_iff_ne.2 a3
  by_cases a4 : act = 4
  · subst a4
    have e2 : p.did 4 n = p.come := by simp [Pw.did]
    rw [e2]
    clear e1 e2 a1 a2 a3
    obtain ⟨o, f, b⟩ := p
    simp only at c0 c1 c2 k0 k1 k2 k3
    cases o
    · go_enter Try.func11, Try.ntmps11
      go_wp2_with fail
      go_returns
      refine ⟨rfl, ⟨((H.out.1.set 0 _).set 1 _).set 2 _, ?_⟩, (((Chg.refl _ _).set1 _ _).set1 _ _).set1 _ _⟩
      have := wrap64_bd (b + 1)
      exact ⟨by show (-9223372036854775808 : Int) ≤ -1; decide, by show (-1 : Int) ≤ _; decide, this.1, this.2⟩
    · go_enter Try.func11, Try.ntmps11
      go_wp2_with fail
      go_returns
      exact ⟨rfl, H.out, Chg.refl _ _⟩
  have d4 : (act == 4) = false := beq_eq_false_iff_ne.2 a4
  have e2 : p.did act n = p := by simp [Pw.did, a1, a2, a3, a4]
  rw [e2]
  clear e1 e2 a1 a2 a3 a4
  go_enter Try.func11, Try.ntmps11
  go_wp2_with fail
  go_returns
  exact ⟨rfl, H.out, Chg.refl _ _⟩
end Go.Proofs.Ytpfedfogoobonaa.Mn
