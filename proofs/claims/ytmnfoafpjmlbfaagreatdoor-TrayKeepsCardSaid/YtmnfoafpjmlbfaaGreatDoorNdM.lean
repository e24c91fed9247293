/- Same, of the program. -/
import Derived.Test.YtmnfoafpjmlbfaaGreatDoorNdH
namespace Go.Proofs.YtmnfoafpjmlbfaaGreatDoor.Nd
open Go.ChangeShapes Go.WideShapes Go.ChangeAt Go.RowKit Go.PlainAid Aid Cr Nt
set_option linter.unusedVariables false
set_option linter.unusedSimpArgs false
set_option maxRecDepth 100000 in
set_option maxHeartbeats 16000000 in
theorem Same_any (a b : Nod) (va vb : Value) (w : World) (hva : NodAt w va a) (hvb : NodAt w vb b) :
    Calls Tryz.prog 27 #[va, vb] w fun e w' => e = .returned (.bool (decide (a = b))) ∧ Below w.heap.size w w' := by
  obtain ⟨p, rfl, hp⟩ := hva
  obtain ⟨p', rfl, hp'⟩ := hvb
  have EE : Hid (∀ w', Below w.heap.size w w' → _) := Lib.hid (fun w' (hb : Below w.heap.size w w') => Equal_any a.list b.list p p' w' (hp.keep hb) (hp'.keep hb))
  obtain ⟨A1, m1, rfl⟩ := hp.slice
  obtain ⟨B1, n1, rfl⟩ := hp'.slice
  obtain ⟨at_, al, ast, ah, ahi, ar, aps⟩ := a
  obtain ⟨bt_, bl, bst, bh, bhi, br, bps⟩ := b
  dsimp only at *
  obtain ⟨R, hR⟩ : ∃ R : Bool, R = decide ((⟨at_, al, ast, ah, ahi, ar, aps⟩ : Nod) = ⟨bt_, bl, bst, bh, bhi, br, bps⟩) := ⟨_, rfl⟩
  rw [← hR]
  have h1 : R = decide (at_ = bt_ ∧ al = bl ∧ ast = bst ∧ ah = bh ∧ ahi = bhi ∧ ar = br ∧ aps = bps) := by
    rw [hR]; simp only [Nod.mk.injEq]
  have HR := Lib.hid h1
  have hsz : ∀ cs T, (w.alloc (.cells cs T)).heap.size = w.heap.size + 1 := fun cs T => by simp
  have S := Lib.hid ((((Own.none w).alloc (nodCells ⟨at_, al, ast, ah, ahi, ar, aps⟩ (.slice A1 aps.length m1)) 31).left).alloc (nodCells ⟨bt_, bl, bst, bh, bhi, br, bps⟩ (.slice B1 bps.length n1)) 31)
  rw [hsz] at S
  clear hp hp' hR h1 hsz
  unfold nodCells at *
  dsimp only at *
  have hk1 : ∀ x y : By, ¬ x = y → ((ofL x).toList == (ofL y).toList) = false := fun x y h => by rw [str_eq, decide_eq_false (fun e => h (ofL_inj e))]
  have HK := Lib.hid hk1
  clear hk1
  go_enter Tryz.func27, Tryz.ntmps27
  go_upto_region 1 with fail
  obtain ⟨g2, hg2⟩ : ∃ g, g = w.heap.size + 1 := ⟨_, rfl⟩
  rw [← hg2] at S ⊢
  obtain ⟨g1, hg1⟩ : ∃ g, g = w.heap.size := ⟨_, rfl⟩
  rw [← hg1] at S ⊢
  clear hg1 hg2
  generalize (w.alloc _).alloc _ = w1 at *
  obtain ⟨c0, c1, c2, c3, c4, c5, c6⟩ := nod_cells (S.out.has (Has.r (has_blk _ _ _)))
  obtain ⟨e0, e1, e2, e3, e4, e5, e6⟩ := nod_cells (S.out.has (Has.l (has_blk _ _ _)))
  by_cases q : at_ = bt_
  case neg =>
    go_wp2_with fail
    go_returns
    exact ⟨ret_bool (by rw [HR.out, eq_comm, decide_eq_false]; rintro ⟨h, -⟩; exact q h), S.out.bel⟩
  subst q
  by_cases q : al = bl
  case neg =>
    go_wp2_with fail
    go_returns
    exact ⟨ret_bool (by rw [HR.out, eq_comm, decide_eq_false]; rintro ⟨-, h, -⟩; exact q h), S.out.bel⟩
  subst q
  by_cases q : ast = bst
  case neg =>
    go_wp2_with fail
    go_returns
    exact ⟨ret_bool (by rw [HR.out, eq_comm, decide_eq_false]; rintro ⟨-, -, h, -⟩; exact q h), S.out.bel⟩
  subst q
  by_cases q : ah = bh
  case neg =>
    cases ah <;> cases bh <;> first | exact absurd rfl q | skip
    all_goals
      go_wp2_with fail
      go_returns
      exact ⟨ret_bool (by rw [HR.out, eq_comm, decide_eq_false]; rintro ⟨-, -, -, h, -⟩; exact q h), S.out.bel⟩
  subst q
  by_cases q : ahi = bhi
  case neg =>
    have hq := HK.out _ _ q
    go_wp2_with fail
    go_returns
    exact ⟨ret_bool (by rw [HR.out, eq_comm, decide_eq_false]; rintro ⟨-, -, -, -, h, -⟩; exact q h), S.out.bel⟩
  subst q
  by_cases q : ar = br
  case neg =>
    go_wp2_with fail
    go_returns
    exact ⟨ret_bool (by rw [HR.out, eq_comm, decide_eq_false]; rintro ⟨-, -, -, -, -, h, -⟩; exact q h), S.out.bel⟩
  subst q
  have hr2 : Hid (R = decide (aps = bps)) := Lib.hid (by rw [HR.out]; simp)
  have hah : (ah == ah) = true := by simp
  have hhi : ((ofL ahi).toList == (ofL ahi).toList) = true := by rw [str_eq, decide_eq_true rfl]
  go_wp2_with fail
  refine (EE.out _ S.out.bel).mono ?_
  rintro e w2 ⟨rfl, hX⟩
  have T := Lib.hid (S.out.below hX)
  clear hX S
  go_wp2_with fail
  go_returns
  exact ⟨ret_bool (by rw [hr2.out]), T.out.bel⟩
end Go.Proofs.YtmnfoafpjmlbfaaGreatDoor.Nd
