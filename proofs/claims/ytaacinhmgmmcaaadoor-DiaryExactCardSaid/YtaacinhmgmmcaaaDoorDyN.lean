/- Of nil; records with neither text nor list; awake. -/
import Derived.Test.YtaacinhmgmmcaaaDoorDyG
namespace Go.Proofs.YtaacinhmgmmcaaaDoor.Nt
open Go.ChangeShapes Go.WideShapes Go.ChangeAt Go.RowKit Go.PlainAid Aid Cr
set_option linter.unusedVariables false
set_option linter.unusedSimpArgs false
section
variable (w : World)
set_option maxHeartbeats 400000 in
theorem Force_nil (n : Int) : Calls Tryd.prog 14 #[.pointer none, .int .i64 n] w fun e w' => e = .returned (.int .i64 2) ∧ w' = w := by
  go_enter Tryd.func14, Tryd.ntmps14
  go_wp2_with fail
  go_returns
  exact ⟨rfl, rfl⟩
set_option maxHeartbeats 400000 in
theorem Hold_nil (n : Int) : Calls Tryd.prog 17 #[.pointer none, .int .i64 n] w fun e w' => e = .returned (.int .i64 2) ∧ w' = w := by
  go_enter Tryd.func17, Tryd.ntmps17
  go_wp2_with fail
  go_returns
  exact ⟨rfl, rfl⟩
set_option maxHeartbeats 400000 in
theorem Free_nil (n : Int) : Calls Tryd.prog 18 #[.pointer none, .int .i64 n] w fun e w' => e = .returned (.tuple #[]) ∧ w' = w := by
  go_enter Tryd.func18, Tryd.ntmps18
  go_wp2_with fail
  go_returns
  exact ⟨rfl, rfl⟩
set_option maxHeartbeats 400000 in
theorem Room_nil : Calls Tryd.prog 19 #[.pointer none] w fun e w' => e = .returned (.int .i64 0) ∧ w' = w := by
  go_enter Tryd.func19, Tryd.ntmps19
  go_wp2_with fail
  go_returns
  exact ⟨rfl, rfl⟩
set_option maxHeartbeats 400000 in
theorem Last_nil : Calls Tryd.prog 23 #[.pointer none] w fun e w' => e = .returned (.int .i64 0) ∧ w' = w := by
  go_enter Tryd.func23, Tryd.ntmps23
  go_wp2_with fail
  go_returns
  exact ⟨rfl, rfl⟩
set_option maxHeartbeats 400000 in
theorem IsSafe_nil (n : Int) : Calls Tryd.prog 22 #[.pointer none, .int .i64 n] w fun e w' => e = .returned (.bool false) ∧ w' = w := by
  go_enter Tryd.func22, Tryd.ntmps22
  go_wp2_with fail
  go_returns
  exact ⟨rfl, rfl⟩
set_option maxRecDepth 100000 in
set_option maxHeartbeats 1000000 in
theorem At_nil (n : Int) : Calls Tryd.prog 20 #[.pointer none, .int .i64 n] w fun e w' => e = .returned (.tuple #[.agg zeroCells, .bool false]) ∧ Below w.heap.size w w' := by
  have S := Lib.hid ((Own.none w).alloc zeroCells 45)
  unfold zeroCells at *
  go_enter Tryd.func20, Tryd.ntmps20
  go_upto_region 2 with fail
  obtain ⟨gx, hgz⟩ : ∃ g, g = w.heap.size := ⟨_, rfl⟩
  rw [← hgz] at S ⊢
  clear hgz
  generalize w.alloc _ = w3 at *
  obtain ⟨⟨c0, c1, c2, c3, c4, c5, c6, c7, c8, c9, c10⟩, f0, f1, f2, f3, f4, f5, f6, f7, f8, f9, f10⟩ := eleven (S.out.has (Has.l (has_blk _ _ _)))
  go_wp2_with fail
  have S2 := Lib.hid (own_eleven S.out (.int .i64 0) (.int .i64 0) (.int .i64 0) (.int .i64 0) (.slice none 0 0) (.int .i64 0) (.int .i64 0) (.string ⟨#[]⟩) (.string ⟨#[]⟩) (.slice none 0 0) (.slice none 0 0))
  clear S c0 c1 c2 c3 c4 c5 c6 c7 c8 c9 c10 f0 f1 f2 f3 f4 f5 f6 f7 f8 f9 f10
  generalize World.setCell (World.setCell (World.setCell (World.setCell (World.setCell (World.setCell (World.setCell (World.setCell (World.setCell (World.setCell (World.setCell w3 _ _) _ _) _ _) _ _) _ _) _ _) _ _) _ _) _ _) _ _) _ _ = w4 at *
  obtain ⟨⟨c0, c1, c2, c3, c4, c5, c6, c7, c8, c9, c10⟩, -⟩ := eleven (S2.out.has (Has.l (has_blk _ _ _)))
  exact bodyPost_ret (v := .tuple #[.agg #[.int .i64 0, .int .i64 0, .int .i64 0, .int .i64 0, .slice none 0 0, .int .i64 0, .int .i64 0, .string ⟨#[]⟩, .string ⟨#[]⟩, .slice none 0 0, .slice none 0 0], .bool false]) (by simp [results, Tryd.results20, go_sem, c0, c1, c2, c3, c4, c5, c6, c7, c8, c9, c10]) rfl ⟨rfl, S2.out.bel⟩
set_option maxRecDepth 100000 in
set_option maxHeartbeats 1000000 in
theorem Add_nil (cs : Array Value) : Calls Tryd.prog 9 #[.pointer none, .agg cs] w fun e w' => e = .returned (.tuple #[.int .i64 0, .int .i64 2]) ∧ Below w.heap.size w w' := by
  have B0 : Hid (Below w.heap.size w (w.alloc (.cells cs 45))) := Lib.hid (blA (Below.refl _ _) _)
  go_enter Tryd.func9, Tryd.ntmps9
  go_wp2_with fail
  go_returns
  exact ⟨rfl, B0.out⟩
end
/-- A record with neither text nor list. -/
def bareR (k d : Int) : Rec := ⟨k, d, 0, 0, [], Und.none, [], []⟩
def bareV (k d : Int) : Value := .agg #[.int .i64 k, .int .i64 d, .int .i64 0, .int .i64 0, .slice none 0 0, .int .i64 0, .int .i64 0, .string ⟨#[]⟩, .string ⟨#[]⟩, .slice none 0 0, .slice none 0 0]
theorem bare_at (w : World) (k d : Int) : RecAt w (bareV k d) (bareR k d) := ⟨_, _, _, rfl, Row2.nil _ _, Row2.nil _ _, Row2.nil _ _⟩
theorem bare_good (k d : Int) (h1 : 1 ≤ k) (h2 : k ≤ 6) (h3 : 0 ≤ d) (h4 : d ≤ 2147483647) : goodB (bareR k d) = true := by
  simp [goodB, bareR, Und.none, gUnd, inN, h1, h2, h3, h4]
theorem bare_len (k d : Int) : (bytes (bareR k d)).length = 29 := by
  rw [bytes_len, body_size _ (fun i h => by cases h)]
  rfl
theorem flat_nil : ofL (flat []) = ⟨#[]⟩ := rfl
theorem open_log {w0 w : World} {O0 : Nat → Prop} {A B M E : Asn} (h : Own w0 O0 w ((A * B) * (M * E))) : Own w0 O0 w (A * (M * (B * E))) := h.assoc.imp (Imp.r imp_front)
set_option maxRecDepth 100000 in
set_option maxHeartbeats 4000000 in
theorem dawake_any (w : World) (ht : Tab w) :
    Calls Tryd.prog 4 #[] w fun e w' => e = .returned (.bool true) ∧ Below w.heap.size w w' := by
  have HT := Lib.hid ht
  have HD := Lib.hid (fun m q => Rl.tNew m q 1000)
  rw [show Rl.nearR 1000 = 1000 by decide] at HD
  have HO := Lib.hid (fun gr m w1 h => Open_whole gr m 1000 0 Rl.idle [] rfl (fun _ h => by cases h) w w1 Asn.emp ht h)
  rw [flat_nil] at HO
  have HA1 := Lib.hid (fun g gr m v w1 C h => Add_ok g gr m 1000 v [] 0 0 (by omega) Rl.idle rfl (bareR 3 0) (bareV 3 0) (bare_good 3 0 (by omega) (by omega) (by omega) (by omega)) (by rw [bare_len]; show (29 : Int) ≤ 1000 - 0 - 0; omega) w w1 C ht (bare_at w1 3 0) h)
  have HA2 := Lib.hid (fun g gr m v w1 C h => Add_ok g gr m 1000 v ([] ++ [bareR 3 0]) 0 0 (by omega) Rl.idle rfl (bareR 4 2) (bareV 4 2) (bare_good 4 2 (by omega) (by omega) (by omega) (by omega)) (by rw [bare_len, flat_snoc, List.length_append, bare_len]; show (29 : Int) ≤ 1000 - 29 - 0; omega) w w1 C ht (bare_at w1 4 2) h)
  have e29 : (flat ([] ++ [bareR 3 0])).length = 29 := by rw [flat_snoc, List.length_append, bare_len]; rfl
  have e58 : (flat ([] ++ [bareR 3 0] ++ [bareR 4 2])).length = 58 := by rw [flat_snoc, List.length_append, e29, bare_len]
  have a30 : at_ ([] ++ [bareR 3 0] ++ [bareR 4 2]) 1 = 30 := by
    have := at_last ([] ++ [bareR 3 0]) (bareR 4 2)
    rw [e29] at this
    exact this
  have HG := Lib.hid (fun g gr m v w1 C h => At_hit g gr m 1000 v ([] ++ [bareR 3 0] ++ [bareR 4 2]) 0 0 1 (bareR 4 2) rfl (bare_good 4 2 (by omega) (by omega) (by omega) (by omega)) w w1 C ht h)
  rw [a30] at HG
  have HLa := Lib.hid (fun g gr m v => tLast g gr m 1000 v ([] ++ [bareR 3 0] ++ [bareR 4 2]) 0 0 30 (by show 30 = at_ _ 1; exact a30.symm))
  have HRo := Lib.hid (fun g gr m v => qRoom g gr m 1000 v ([] ++ [bareR 3 0] ++ [bareR 4 2]) 0 0 (by omega))
  rw [e58] at HRo
  have HSa := Lib.hid (fun g gr m v => tIsSafe_hit g gr m 1000 v ([] ++ [bareR 3 0] ++ [bareR 4 2]) 0 0 0 (bareR 3 0) rfl)
  rw [bare_len] at HSa
  rw [e29] at HA2
  have S0 := Lib.hid (Own.none w)
  clear ht e29 e58 a30
  unfold lPtr bareV at *
  go_enter Tryd.func4, Tryd.ntmps4
  go_wp2_with fail
  refine (S0.out.callE Mn.tNew).mono ?_
  rintro e w1 ⟨m, rfl, h1⟩
  have S1 := Lib.hid h1
  clear h1 S0
  go_wp2_with fail
  refine (S1.out.callE (HD.out _ _)).mono ?_
  rintro e w2 ⟨gr, rfl, h1⟩
  have S2 := Lib.hid (h1.addEmp.assoc)
  clear h1 S1 HD
  go_wp2_with fail
  refine (HO.out _ _ _ S2.out).mono ?_
  rintro e w3 ⟨⟨g, v1, v2, M⟩, ⟨hM, rfl⟩, hX⟩
  have S3 := Lib.hid (open_log hX)
  obtain ⟨A2, c2, rfl⟩ := hX.left.right.vec.slice
  clear hX S2 HO
  dsimp only at *
  go_wp2_with fail
  refine (HA1.out _ _ _ _ _ _ S3.out).mono ?_
  rintro e w4 ⟨v1', rfl, hX⟩
  have S4 := Lib.hid hX
  clear hX S3 HA1
  go_wp2_with fail
  refine (HA2.out _ _ _ _ _ _ S4.out).mono ?_
  rintro e w5 ⟨v2', rfl, hX⟩
  have S5 := Lib.hid hX
  clear hX S4 HA2
  go_wp2_with fail
  refine (HG.out _ _ _ _ _ _ S5.out).mono ?_
  rintro e w6 ⟨⟨p1, p2, p3⟩, rfl, hX⟩
  obtain ⟨B1, m1, rfl⟩ := hX.left.vec.slice
  obtain ⟨B2, m2, rfl⟩ := hX.left.right.vec.slice
  obtain ⟨B3, m3, rfl⟩ := hX.left.right.vecR.slice
  have S6 := Lib.hid (hX.right.alloc (recCells (bareR 4 2) (.slice B1 (bareR 4 2).pages.length m1) (.slice B2 (bareR 4 2).opn.length m2) (.slice B3 (bareR 4 2).dty.length m3)) 45)
  clear hX S5 HG
  unfold recV recCells at *
  dsimp only at *
  go_upto_region 7 with fail
  obtain ⟨gx, hgz⟩ : ∃ g, g = w6.heap.size := ⟨_, rfl⟩
  rw [← hgz] at S6 ⊢
  clear hgz
  generalize w6.alloc _ = w7 at *
  obtain ⟨⟨c0, c1, -⟩, -⟩ := eleven (S6.out.has (Has.l (has_blk _ _ _)))
  unfold bareR at c1
  dsimp only at c1
  go_wp2_with fail
  refine (S6.out.call (HLa.out _ _ _ _).l.r).mono ?_
  rintro e w8 ⟨rfl, hX⟩
  have S7 := Lib.hid hX
  clear hX S6 HLa c0 c1
  go_wp2_with fail
  refine (S7.out.ask (HRo.out _ _ _ _).l.r).mono ?_
  rintro e w9 ⟨rfl, k, rfl⟩
  have S8 := Lib.hid (S7.out.drewN k)
  clear S7 HRo
  generalize w8.drewN k = w9 at *
  go_wp2_with fail
  refine (S8.out.call (HSa.out _ _ _ _).l.r).mono ?_
  rintro e w10 ⟨rfl, hX⟩
  have S9 := Lib.hid hX
  clear hX S8 HSa
  go_wp2_with fail
  go_returns
  exact ⟨rfl, S9.out.bel⟩
end Go.Proofs.YtaacinhmgmmcaaaDoor.Nt
