/- Texts of ours, joined. -/
import Derived.Test.YtapdpdhibpblgaaGreatDoorDyF
import Derived.Test.YtapdpdhibpblgaaGreatDoorApp
import Derived.Test.YtapdpdhibpblgaaGreatDoorTrZ
import Derived.Test.YtapdpdhibpblgaaGreatDoorTrA
import Derived.Test.YtapdpdhibpblgaaGreatDoorDyE

-- joined
section
namespace Go.Proofs.YtapdpdhibpblgaaGreatDoor.Nt
open Go.ChangeShapes Go.WideShapes Go.ChangeAt Go.RowKit Go.PlainAid Aid Cr
set_option linter.unusedVariables false
set_option linter.unusedSimpArgs false
section
variable (gr m size safe : Nat) (q : Mn.Pw) (L : List Rec)
/-- What an opened log comes to. -/
def aOpen (gr m size safe : Nat) (L : List Rec) (p : Nat × Value × Value × List (Rec × Q3)) : Asn :=
  aLg p.1 gr m size p.2.1 L safe 0 * (Asn.vec 176 12 p.2.2.1 L.length (told 0 p.2.2.2) * aRecs p.2.2.2)
theorem own_box {w0 w : World} {O0 : Nat → Prop} {A B C D E F : Asn} (h : Own w0 O0 w (A * (B * (C * (D * (E * F)))))) : Own w0 O0 w (((A * B) * E) * ((C * D) * F)) := by
  -- A * (B * (C * (D * (E * F)))) to (A * B) * (C * (D * (E * F)))
  have h1 := h.assoc'
  have h2 := (h1.imp (Imp.r (Imp.r imp_front))).imp (Imp.r imp_front)
  exact h2.assoc'.imp (Imp.r (fun _ _ => sep_assoc'))
set_option maxRecDepth 100000 in
set_option maxHeartbeats 2000000 in
theorem Open_whole (hq : q.on = true) (hL : ∀ r, r ∈ L → goodB r = true) (w0 w : World) (C : Asn) (ht : Tab w0) (hS : Own w0 No w (Rl.aRl gr m size (ofL (flat L)) safe * (Mn.aMn m q * C))) :
    Calls Tryz.prog 25 #[lPtr gr] w fun e w' => ∃ p : Nat × Value × Value × List (Rec × Q3), (recsOf p.2.2.2 = L ∧ e = .returned (.tuple #[lPtr p.1, p.2.2.1, .int .i64 0])) ∧ Own w0 No w' (aOpen gr m size safe L p * (Mn.aMn m q * C)) := by
  have HR := Lib.hid (Rl.qRead_on gr m size (ofL (flat L)) safe q hq)
  have hfit := hS.get (Fact.l (fun w O (h : Rl.Rl w gr m O size (ofL (flat L)) safe) => (⟨h.small, h.fits⟩ : size ≤ 262144 ∧ (ofL (flat L)).size ≤ size)))
  rw [ofL_sz] at hfit
  have HS := Lib.hid (fun w h => split_any L [] hL read_nil (by rw [List.append_nil]; omega) w0 w (Rl.aRl gr m size (ofL (flat L)) safe * (Mn.aMn m q * C)) ht h)
  rw [List.append_nil] at HS
  have S := Lib.hid hS
  have hsz : (ofL (flat L)).size = (flat L).length := rfl
  clear hS ht hL
  unfold lPtr
  generalize hx : ofL (flat L) = x at *
  have HX := Lib.hid hx
  clear hx
  go_enter Tryz.func25, Tryz.ntmps25
  go_wp2_with fail
  refine (S.out.assoc'.ask HR.out.l).mono ?_
  rintro e w1 ⟨rfl, k, rfl⟩
  have S1 := Lib.hid (S.out.drewN k)
  clear S HR
  generalize w.drewN k = w1 at *
  go_wp2_with fail
  refine (HS.out _ S1.out).mono ?_
  rintro e w2 ⟨⟨v1, v2, M⟩, ⟨hM, rfl⟩, hX⟩
  obtain ⟨A1, c1, rfl⟩ := hX.vec.slice
  obtain ⟨A2, c2, rfl⟩ := hX.right.vec.slice
  have S2 := Lib.hid (own_box (hX.alloc (lgRow gr (.slice A1 L.length c1) 0) 90))
  have hlt : ¬ ((flat L).length : Int) < (x.size : Int) := by omega
  clear hX S1 HS
  unfold lgRow at *
  go_wp2_with fail
  go_returns
  refine ⟨(w2.heap.size, .slice A1 L.length c1, .slice A2 L.length c2, M), ⟨hM, rfl⟩, ?_⟩
  have h := S2.out
  rw [← HX.out] at h
  exact h.assoc'
theorem in3 {X A B D E : Asn} : Imp (X * (A * (B * (D * E)))) (A * (B * (D * (X * E)))) := fun w O h => (Imp.r (Imp.r imp_front)) w O ((Imp.r imp_front) w O (imp_front w O h))
theorem out3 {X A B D E : Asn} : Imp (A * (B * (D * (X * E)))) (X * (A * (B * (D * E)))) := fun w O h => imp_front w O ((Imp.r imp_front) w O ((Imp.r (Imp.r imp_front)) w O h))
set_option maxRecDepth 100000 in
set_option maxHeartbeats 2000000 in
theorem Open_torn (t : By) (ht0 : readR t = none) (htn : t ≠ []) (hq : q.on = true) (hqa : q.ans = 0) (hL : ∀ r, r ∈ L → goodB r = true) (w0 w : World) (C : Asn) (ht : Tab w0) (hS : Own w0 No w (Rl.aRl gr m size (ofL (flat L ++ t)) safe * (Mn.aMn m q * C))) :
    Calls Tryz.prog 25 #[lPtr gr] w fun e w' => ∃ p : Nat × Value × Value × List (Rec × Q3), (recsOf p.2.2.2 = L ∧ e = .returned (.tuple #[lPtr p.1, p.2.2.1, .int .i64 0])) ∧ Own w0 No w' (aOpen gr m size (flat L).length L p * (Mn.aMn m q.use * C)) := by
  have HR := Lib.hid (Rl.qRead_on gr m size (ofL (flat L ++ t)) safe q hq)
  have hfit := hS.get (Fact.l (fun w O (h : Rl.Rl w gr m O size (ofL (flat L ++ t)) safe) => (⟨h.small, h.fits⟩ : size ≤ 262144 ∧ (ofL (flat L ++ t)).size ≤ size)))
  rw [ofL_sz] at hfit
  have HS := Lib.hid (fun w h => split_any L t hL ht0 (by omega) w0 w (Rl.aRl gr m size (ofL (flat L ++ t)) safe * (Mn.aMn m q * C)) ht h)
  have HM := Lib.hid (Rl.tTrim_ok gr m size (ofL (flat L ++ t)) safe q (flat L).length (by rw [ofL_sz, List.length_append]; omega) hqa)
  rw [ofL_take, List.take_left] at HM
  have S := Lib.hid hS
  have hsz : (ofL (flat L ++ t)).size = (flat L).length + t.length := by rw [ofL_sz, List.length_append]
  have htl : 0 < t.length := List.length_pos_iff.2 htn
  clear hS ht hL ht0 htn
  unfold lPtr
  generalize ofL (flat L ++ t) = x at *
  generalize hx : ofL (flat L) = y at *
  have HX := Lib.hid hx
  clear hx
  go_enter Tryz.func25, Tryz.ntmps25
  go_wp2_with fail
  refine (S.out.assoc'.ask HR.out.l).mono ?_
  rintro e w1 ⟨rfl, k, rfl⟩
  have S1 := Lib.hid (S.out.drewN k)
  clear S HR
  generalize w.drewN k = w1 at *
  go_wp2_with fail
  refine (HS.out _ S1.out).mono ?_
  rintro e w2 ⟨⟨v1, v2, M⟩, ⟨hM, rfl⟩, hX⟩
  obtain ⟨A1, c1, rfl⟩ := hX.vec.slice
  obtain ⟨A2, c2, rfl⟩ := hX.right.vec.slice
  have S2 := Lib.hid ((hX.imp out3).imp (Imp.r out3)).assoc'
  have hlt : ((flat L).length : Int) < (x.size : Int) := by omega
  clear hX S1 HS
  go_wp2_with fail
  refine (S2.out.call HM.out.l).mono ?_
  rintro e w3 ⟨rfl, hX⟩
  have S3 := (hX.assoc.imp (Imp.r in3)).imp in3
  have S4 := Lib.hid (own_box (S3.alloc (lgRow gr (.slice A1 L.length c1) 0) 90))
  clear hX S2 HM S3
  unfold lgRow at *
  go_wp2_with fail
  go_returns
  refine ⟨(w3.heap.size, .slice A1 L.length c1, .slice A2 L.length c2, M), ⟨hM, rfl⟩, ?_⟩
  have h := S4.out
  rw [← HX.out] at h
  exact h.assoc'
set_option maxRecDepth 100000 in
set_option maxHeartbeats 2000000 in
theorem Open_down (x : ByteArray) (hq : q.on = false) (w0 w : World) (C : Asn) (hS : Own w0 No w (Rl.aRl gr m size x safe * (Mn.aMn m q * C))) :
    Calls Tryz.prog 25 #[lPtr gr] w fun e w' => e = .returned (.tuple #[.pointer none, .slice none 0 0, .int .i64 4]) ∧ Own w0 No w' (Rl.aRl gr m size x safe * (Mn.aMn m q * C)) := by
  have HR := Lib.hid (Rl.qRead_off gr m size x safe q hq)
  have S := Lib.hid hS
  clear hS
  unfold lPtr
  go_enter Tryz.func25, Tryz.ntmps25
  go_wp2_with fail
  refine (S.out.assoc'.ask HR.out.l).mono ?_
  rintro e w1 ⟨rfl, k, rfl⟩
  have S1 := Lib.hid (S.out.drewN k)
  clear S HR
  generalize w.drewN k = w1 at *
  go_wp2_with fail
  go_returns
  exact ⟨rfl, S1.out⟩
end
set_option maxHeartbeats 400000 in
theorem Open_nil (w : World) : Calls Tryz.prog 25 #[.pointer none] w fun e w' => e = .returned (.tuple #[.pointer none, .slice none 0 0, .int .i64 2]) ∧ w' = w := by
  go_enter Tryz.func25, Tryz.ntmps25
  go_wp2_with fail
  refine (Rl.Read_nil _).mono ?_
  rintro e w' ⟨rfl, rfl⟩
  go_wp2_with fail
  go_returns
  exact ⟨rfl, rfl⟩
end Go.Proofs.YtapdpdhibpblgaaGreatDoor.Nt
end

-- joined
section
namespace Go.Proofs.YtapdpdhibpblgaaGreatDoor.Nt
open Go.ChangeShapes Go.WideShapes Go.ChangeAt Go.RowKit Go.PlainAid Aid Cr
set_option linter.unusedVariables false
set_option linter.unusedSimpArgs false
section
variable (w : World)
set_option maxHeartbeats 400000 in
theorem Force_nil (n : Int) : Calls Tryz.prog 79 #[.pointer none, .int .i64 n] w fun e w' => e = .returned (.int .i64 2) ∧ w' = w := by
  go_enter Tryz.func79, Tryz.ntmps79
  go_wp2_with fail
  go_returns
  exact ⟨rfl, rfl⟩
set_option maxHeartbeats 400000 in
theorem Room_nil : Calls Tryz.prog 29 #[.pointer none] w fun e w' => e = .returned (.int .i64 0) ∧ w' = w := by
  go_enter Tryz.func29, Tryz.ntmps29
  go_wp2_with fail
  go_returns
  exact ⟨rfl, rfl⟩
set_option maxHeartbeats 400000 in
theorem IsSafe_nil (n : Int) : Calls Tryz.prog 22 #[.pointer none, .int .i64 n] w fun e w' => e = .returned (.bool false) ∧ w' = w := by
  go_enter Tryz.func22, Tryz.ntmps22
  go_wp2_with fail
  go_returns
  exact ⟨rfl, rfl⟩
set_option maxRecDepth 100000 in
set_option maxHeartbeats 1000000 in
theorem Add_nil (cs : Array Value) : Calls Tryz.prog 8 #[.pointer none, .agg cs] w fun e w' => e = .returned (.tuple #[.int .i64 0, .int .i64 2]) ∧ Below w.heap.size w w' := by
  have B0 : Hid (Below w.heap.size w (w.alloc (.cells cs 50))) := Lib.hid (blA (Below.refl _ _) _)
  go_enter Tryz.func8, Tryz.ntmps8
  go_wp2_with fail
  go_returns
  exact ⟨rfl, B0.out⟩
end
/-- A record with neither text nor list. -/
def bareR (k d : Int) : Rec := ⟨k, d, 0, 0, [], Und.none, [], []⟩
def bareV (k d : Int) : Value := .agg #[.int .i64 k, .int .i64 d, .int .i64 0, .int .i64 0, .slice none 0 0, .int .i64 0, .int .i64 0, .string ⟨#[]⟩, .string ⟨#[]⟩, .slice none 0 0, .slice none 0 0]
theorem bare_at (w : World) (k d : Int) : RecAt w (bareV k d) (bareR k d) := ⟨_, _, _, rfl, Row2.nil _ _, Row2.nil _ _, Row2.nil _ _⟩
theorem bare_good (k d : Int) (h1 : 1 ≤ k) (h2 : k ≤ 6) (h3 : 0 ≤ d) (h4 : d ≤ 2147483647) : goodB (bareR k d) = true := by
  simp [goodB, bareR, Und.none, gUnd, inN, h1, h2, h3, h4]
theorem bare_len (k d : Int) : (bytes (bareR k d)).length = 29 := by
  rw [bytes_len, body_size _ (fun i h => by cases h)]
  rfl
theorem flat_nil : ofL (flat []) = ⟨#[]⟩ := rfl
theorem open_log {w0 w : World} {O0 : Nat → Prop} {A B M E : Asn} (h : Own w0 O0 w ((A * B) * (M * E))) : Own w0 O0 w (A * (M * (B * E))) := h.assoc.imp (Imp.r imp_front)
end Go.Proofs.YtapdpdhibpblgaaGreatDoor.Nt
end

-- joined
section
namespace Go.Proofs.YtapdpdhibpblgaaGreatDoor.Tr
open Go.ChangeShapes Go.WideShapes Go.ChangeAt Go.RowKit Go.PlainAid Aid Nt Nd Cr
set_option linter.unusedVariables false
set_option linter.unusedSimpArgs false
set_option linter.unusedSectionVars false
set_option maxHeartbeats 1000000 in
theorem new_any (gd gl : Nat) (w0 w : World) (C : Asn) (hS : Own w0 No w C) :
    Calls Tryz.prog 27 #[.pointer (some ⟨gd, 0, none⟩), .pointer (some ⟨gl, 0, none⟩)] w fun e w' => ∃ g, e = .returned (.pointer (some ⟨g, 0, none⟩)) ∧ Own w0 No w' (aTr g gd gl (.slice none 0 0) (.slice none 0 0) [] [] * C) := by
  have S := Lib.hid ((((ns_nil hS).nilVec 114 3).nilVec 98 8).alloc (trRow gd gl (.slice none 0 0) (.slice none 0 0)) 109)
  clear hS
  unfold trRow at *
  go_enter Tryz.func27, Tryz.ntmps27
  go_wp2_with fail
  go_returns
  refine ⟨_, rfl, ?_⟩
  rw [tr_b]
  exact S.out
/-- Where all lies. -/
structure Lay where
  gb : Nat
  m : Nat
  gd : Nat
  b : Nat
  gl : Nat
  gr : Nat
  g : Nat
  lv : Value
def bRow (y : Lay) : Array Value := #[.pointer (some ⟨y.m, 0, none⟩), .pointer (some ⟨y.gd, 0, none⟩), .pointer (some ⟨y.gl, 0, none⟩), .pointer (some ⟨y.g, 0, none⟩)]
def bare3 : W3 := ⟨fun _ => none, fun _ => Sl.Pg.none, 0⟩
theorem lst_empty {α : Type} (n : Nat) : lst (fun _ => (none : Option α)) n = [] := by
  unfold lst
  induction List.range n with
  | nil => rfl
  | cons a l ih => rw [List.filterMap_cons]; exact ih
set_option maxRecDepth 100000 in
set_option maxHeartbeats 4000000 in
theorem made_any (k : Nat) (hk : k ≤ 256) (w0 w : World) (C : Asn) (ht : Tab w0) (hS : Own w0 No w C) :
    Calls Tryz.prog 5 #[.int .i64 k] w fun e w' => ∃ (y : Lay) (Y : Asn), e = .returned (.pointer (some ⟨y.gb, 0, none⟩)) ∧
      Own w0 No w' (Asn.blk y.gb 42 (bRow y) * aBn y.g y.gd y.gl y.m y.b k 65536 y.gr (.slice none 0 0) (.slice none 0 0) y.lv (fun _ => none) [] 0 bare3 Y) := by
  have S := Lib.hid hS.addEmp
  have HD := Lib.hid (fun m q => Sl.tNew m q k)
  rw [show Sl.near k = k by unfold Sl.near; omega] at HD
  have HR := Lib.hid (fun m q => Rl.tNew m q 65536)
  rw [show Rl.nearR 65536 = 65536 by decide] at HR
  have HO := Lib.hid (fun gr m w1 C h => Open_whole gr m 65536 0 Rl.idle [] rfl (fun _ h => by cases h) w0 w1 C ht h)
  rw [flat_nil] at HO
  have HN := Lib.hid (fun gd gl w C h => new_any gd gl w0 w C h)
  clear hS ht
  unfold lPtr at *
  go_enter Tryz.func5, Tryz.ntmps5
  go_wp2_with fail
  refine (S.out.callE Mn.tNew.r).mono ?_
  rintro e w1 ⟨m, rfl, h1⟩
  have S1 := Lib.hid h1
  clear h1 S
  go_wp2_with fail
  refine (S1.out.callE (HD.out _ _).r).mono ?_
  rintro e w2 ⟨⟨gd, b⟩, rfl, h1⟩
  dsimp only at h1
  have S2 := Lib.hid (h1.re (show _ = (C * Sl.aDk gd m b k (fun _ => Sl.Pg.none)) * Mn.aMn m ⟨true, -1, 1⟩ by ac_rfl))
  clear h1 S1 HD
  go_wp2_with fail
  refine (S2.out.callE (HR.out _ _).r).mono ?_
  rintro e w3 ⟨gr, rfl, h1⟩
  have S3 := Lib.hid (h1.re (show _ = Rl.aRl gr m 65536 ⟨#[]⟩ 0 * (Mn.aMn m Rl.idle * (C * Sl.aDk gd m b k (fun _ => Sl.Pg.none))) from by show (C * Sl.aDk gd m b k (fun _ => Sl.Pg.none)) * (Rl.aRl gr m 65536 ⟨#[]⟩ 0 * Mn.aMn m Rl.idle) = _; ac_rfl))
  clear h1 S2 HR
  go_wp2_with fail
  refine (HO.out _ _ _ _ S3.out).mono ?_
  rintro e w4 ⟨⟨gl, v1, v2, M⟩, ⟨hM, rfl⟩, hX⟩
  dsimp only at *
  have S4 := Lib.hid hX
  obtain ⟨A2, c2, rfl⟩ := hX.left.right.vec.slice
  clear hX S3 HO
  go_wp2_with fail
  refine (HN.out _ _ _ _ S4.out).mono ?_
  rintro e w5 ⟨g, rfl, hX⟩
  have S5 := Lib.hid (hX.alloc #[.pointer (some ⟨m, 0, none⟩), .pointer (some ⟨gd, 0, none⟩), .pointer (some ⟨gl, 0, none⟩), .pointer (some ⟨g, 0, none⟩)] 42)
  clear hX S4 HN
  go_wp2_with fail
  go_returns
  refine ⟨⟨w5.heap.size, m, gd, b, gl, gr, g, v1⟩, (Asn.vec 176 12 (.slice A2 ([] : List Rec).length c2) ([] : List Rec).length (told 0 M) * aRecs M) * C, rfl, ?_⟩
  unfold aBn bare3 bRow
  dsimp only
  rw [lst_empty, lst_empty]
  refine S5.out.re ?_
  unfold aOpen
  dsimp only
  ac_rfl
end Go.Proofs.YtapdpdhibpblgaaGreatDoor.Tr
end

-- joined
section
namespace Go.Proofs.YtapdpdhibpblgaaGreatDoor.Tr
open Go.ChangeShapes Go.WideShapes Go.ChangeAt Go.RowKit Go.PlainAid Aid Nt Nd
set_option linter.unusedVariables false
set_option linter.unusedSimpArgs false
def dty (D : List Db) : List Value := D.flatMap fun x => [.int .i64 x.page, .int .i64 x.first]
def nums (H : List Sh) : List Value := H.flatMap fun x => [.int .i64 x.page]
def toldV : Value := .func (.func 54) #[] #[]
theorem infoDirty : (Tryz.prog.info? 72).map (fun i => (i.zero, i.size, i.bytes)) = some (some (.agg #[.int .i64 0, .int .i64 0]), 2, 16) := by kernel_rfl
theorem infoInt : (Tryz.prog.info? 3).map (fun i => (i.zero, i.size, i.bytes)) = some (some (.int .i64 0), 1, 8) := by kernel_rfl
theorem two2 {w : World} {g : Nat} {T : TypeId} {a b : Value} (h : Blk w g T #[a, b]) : w.cell? ⟨g, 0, none⟩ = some a ∧ w.cell? ⟨g, 1, none⟩ = some b ∧ w.frozen? ⟨g, 0, none⟩ = false ∧ w.frozen? ⟨g, 1, none⟩ = false := ⟨h.cell 0, h.cell 1, h.free 0, h.free 1⟩
set_option maxHeartbeats 400000 in
theorem told_debt (a b c : Int) (w : World) :
    Calls Tryz.prog 54 #[.agg #[.int .i64 a, .int .i64 b, .int .i64 c]] w fun e w' => e = .returned (.agg #[.int .i64 a, .int .i64 b]) ∧ Below w.heap.size w w' := by
  have S := Lib.hid (((Own.none w).alloc #[.int .i64 a, .int .i64 b, .int .i64 c] 114).alloc #[.int .i64 a, .int .i64 b] 72)
  have hsz : (w.alloc (.cells #[.int .i64 a, .int .i64 b, .int .i64 c] 114)).heap.size = w.heap.size + 1 := by simp
  obtain ⟨c0, c1, -⟩ := two2 (S.out.has (Has.l (has_blk _ _ _)))
  rw [hsz] at c0 c1
  go_enter Tryz.func54, Tryz.ntmps54
  go_wp2_with fail
  exact bodyPost_ret (v := .agg #[.int .i64 a, .int .i64 b]) (by simp [results, Tryz.results54, go_sem, c0, c1]) rfl ⟨rfl, S.out.bel⟩
set_option maxRecDepth 100000 in
set_option maxHeartbeats 2000000 in
theorem each_dirty (v : Value) (D : List Db) (w0 w : World) (C : Asn) (hD : D.length ≤ 100000) (hS : Own w0 No w (Asn.vec 114 3 v D.length (dbs D) * C)) :
    Calls Tryz.prog 53 #[v, toldV] w fun e w' => ∃ p, e = .returned p ∧
      Own w0 No w' (Asn.vec 72 2 p D.length (dty D) * (Asn.vec 114 3 v D.length (dbs D) * C)) := by
  have S := Lib.hid (hS.nilVec 72 2)
  have HT := Lib.hid (fun a b c w => told_debt a b c w)
  obtain ⟨A, c, rfl⟩ := hS.vec.slice
  clear hS
  unfold toldV at *
  go_enter Tryz.func53, Tryz.ntmps53
  go_wp2_with fail
  go_loopw [5, 7, 10] (fun all _ i wr => ∃ k : Nat, i = .int .i64 k ∧ k ≤ D.length ∧ Hid (Own w0 No wr (Asn.vec 72 2 all k (dty (D.take k)) * (Asn.vec 114 3 (.slice A D.length c) D.length (dbs D) * C)))) (fun _ _ i _ => D.length - (intOf i).toNat)
  case atStart => exact ⟨0, rfl, Nat.zero_le _, S⟩
  case round =>
    clear S
    obtain ⟨k, rfl, hk, S⟩ := hrel
    obtain ⟨A1, c1, rfl⟩ := S.out.vec.slice
    by_cases hlt : k < D.length
    · obtain ⟨y, hy⟩ : ∃ y, D[k]? = some y := ⟨D[k]'hlt, List.getElem?_eq_getElem _⟩
      obtain ⟨b, rfl⟩ : ∃ b, A = some ⟨b, 0, none⟩ := by
        rcases S.out.right.vec.forms with ⟨-, hz⟩ | ⟨g, cap, he, -⟩
        · omega
        · cases he; exact ⟨_, rfl⟩
      have hv := S.out.right.vec
      have d0 : wr.cell? ⟨b, k * 3, none⟩ = some (.int .i64 y.page) := hv.cell (j := k * 3 + 0) (by rw [dbs_at D k y hy 0 (by decide)]; rfl)
      have d1 : wr.cell? ⟨b, k * 3 + 1, none⟩ = some (.int .i64 y.first) := hv.cell (by rw [dbs_at D k y hy 1 (by decide)]; rfl)
      have d2 : wr.cell? ⟨b, k * 3 + 2, none⟩ = some (.int .i64 y.un) := hv.cell (by rw [dbs_at D k y hy 2 (by decide)]; rfl)
      have htk : dty (D.take (k + 1)) = dty (D.take k) ++ [.int .i64 y.page, .int .i64 y.first] := by rw [List.take_add_one, hy, dty, List.flatMap_append]; rfl
      have HTK := Lib.hid htk
      clear hv hy htk
      generalize (y.page : Int) = ya at *
      generalize (y.first : Int) = yb at *
      generalize (y.un : Int) = yc at *
      have S1 := Lib.hid (S.out.alloc #[.int .i64 ya, .int .i64 yb, .int .i64 yc] 114).right
      clear S
      go_wp2_with fail
      refine (HT.out _ _ _ _).mono ?_
      rintro e w2 ⟨rfl, hX⟩
      have S2 := Lib.hid (S1.out.below hX)
      clear hX S1 d0 d1 d2
      have S3 := Lib.hid (S2.out.alloc #[.int .i64 ya, .int .i64 yb] 72).right
      have CX : Hid (Src Tryz.prog 2 48 (.slice (some ⟨w2.heap.size, 0, none⟩) 1 1) 1 [.int .i64 ya, .int .i64 yb] (w2.alloc (.cells #[.int .i64 ya, .int .i64 yb] 72))) := Lib.hid (Src.ofSlice _ Tryz.underlying48 _ 1 1 _ rfl (blk_cells (Blk.new w2 #[.int .i64 ya, .int .i64 yb] 72)) (by intro u hu; simp at hu; rcases hu with rfl | rfl <;> rfl))
      clear S2
      go_wp2_with (with_reducible refine wpList_append_vec rfl (.tmp 14) (.tmp 18) 48 48 rfl 72 _ 2 16 Tryz.underlying48 infoDirty ?c1 ?c2 _ k (dty (D.take k)) ?c7 S3.out.vec (.slice (some ⟨w2.heap.size, 0, none⟩) 1 1) ?c8 1 _ CX.out ?c3 ?c4 ?_)
      case c1 => rfl
      case c2 => decide
      case c3 => unfold maxLen; omega
      case c4 => omega
      case c7 => rfl
      case c8 => rfl
      intro v' w3 hv hc hf
      have S4 := Lib.hid (S3.out.app hv hc hf)
      obtain ⟨A', c', rfl⟩ := hv.slice
      rw [← HTK.out] at S4
      clear S3 CX hv hc hf
      go_wp2_with fail
      go_roundw
      case rel => exact ⟨k + 1, by go_num, by omega, S4⟩
      case measure => simp [intOf]; omega
    · obtain rfl : k = D.length := by omega
      go_wp2_with fail
      go_returns
      refine ⟨_, rfl, ?_⟩
      have := S.out
      rwa [List.take_length] at this
set_option maxRecDepth 100000 in
set_option maxHeartbeats 2000000 in
theorem each_held (v : Value) (D : List Sh) (w0 w : World) (C : Asn) (hD : D.length ≤ 100000) (hv7 : ∀ y, y ∈ D → ∃ A n c, y.v = .slice A n c) (hS : Own w0 No w (Asn.vec 98 8 v D.length (shs D) * C)) :
    Calls Tryz.prog 88 #[v, num_sheet] w fun e w' => ∃ p, e = .returned p ∧
      Own w0 No w' (Asn.vec 3 1 p D.length (nums D) * (Asn.vec 98 8 v D.length (shs D) * C)) := by
  have S := Lib.hid (hS.nilVec 3 1)
  have HT := Lib.hid (fun a b c d e f g h w => number_sheet a b c d e f g h w)
  obtain ⟨A, c, rfl⟩ := hS.vec.slice
  clear hS
  unfold num_sheet at *
  go_enter Tryz.func88, Tryz.ntmps88
  go_wp2_with fail
  go_loopw [5, 7, 10] (fun all _ i wr => ∃ k : Nat, i = .int .i64 k ∧ k ≤ D.length ∧ Hid (Own w0 No wr (Asn.vec 3 1 all k (nums (D.take k)) * (Asn.vec 98 8 (.slice A D.length c) D.length (shs D) * C)))) (fun _ _ i _ => D.length - (intOf i).toNat)
  case atStart => exact ⟨0, rfl, Nat.zero_le _, S⟩
  case round =>
    clear S
    obtain ⟨k, rfl, hk, S⟩ := hrel
    obtain ⟨A1, c1, rfl⟩ := S.out.vec.slice
    by_cases hlt : k < D.length
    · obtain ⟨y, hy⟩ : ∃ y, D[k]? = some y := ⟨D[k]'hlt, List.getElem?_eq_getElem _⟩
      obtain ⟨b, rfl⟩ : ∃ b, A = some ⟨b, 0, none⟩ := by
        rcases S.out.right.vec.forms with ⟨-, hz⟩ | ⟨g, cap, he, -⟩
        · omega
        · cases he; exact ⟨_, rfl⟩
      have hv := S.out.right.vec
      have hy0 := List.mem_of_getElem? hy
      have d0 : wr.cell? ⟨b, k * 8, none⟩ = some (.int .i64 y.page) := hv.cell (j := k * 8 + 0) (by rw [shs_at D k y hy 0 (by decide)]; rfl)
      have d1 : wr.cell? ⟨b, k * 8 + 1, none⟩ = some (.int .i64 y.n.tree) := hv.cell (by rw [shs_at D k y hy 1 (by decide)]; rfl)
      have d2 : wr.cell? ⟨b, k * 8 + 2, none⟩ = some (.int .i64 y.n.level) := hv.cell (by rw [shs_at D k y hy 2 (by decide)]; rfl)
      have d3 : wr.cell? ⟨b, k * 8 + 3, none⟩ = some (.int .i64 y.n.stamp) := hv.cell (by rw [shs_at D k y hy 3 (by decide)]; rfl)
      have d4 : wr.cell? ⟨b, k * 8 + 4, none⟩ = some (.bool y.n.has) := hv.cell (by rw [shs_at D k y hy 4 (by decide)]; rfl)
      have d5 : wr.cell? ⟨b, k * 8 + 5, none⟩ = some (.string (ofL y.n.high)) := hv.cell (by rw [shs_at D k y hy 5 (by decide)]; rfl)
      have d6 : wr.cell? ⟨b, k * 8 + 6, none⟩ = some (.int .i64 y.n.right) := hv.cell (by rw [shs_at D k y hy 6 (by decide)]; rfl)
      have d7 : wr.cell? ⟨b, k * 8 + 7, none⟩ = some (y.v) := hv.cell (by rw [shs_at D k y hy 7 (by decide)]; rfl)
      have htk : nums (D.take (k + 1)) = nums (D.take k) ++ [.int .i64 y.page] := by rw [List.take_add_one, hy, nums, List.flatMap_append]; rfl
      have HTK := Lib.hid htk
      clear hv hy htk
      generalize (y.page : Int) = ya at *
      generalize y.n.tree = z1 at *
      generalize y.n.level = z2 at *
      generalize y.n.stamp = z3 at *
      generalize y.n.has = z4 at *
      generalize ofL y.n.high = z5 at *
      generalize y.n.right = z6 at *
      obtain ⟨zA, zn, zc, hz7⟩ : ∃ A n c, y.v = .slice A n c := hv7 y hy0
      rw [hz7] at d7
      clear hz7 hy0
      have S1 := Lib.hid (S.out.alloc #[.int .i64 ya, .int .i64 z1, .int .i64 z2, .int .i64 z3, .bool z4, .string z5, .int .i64 z6, .slice zA zn zc] 98).right
      clear S
      go_wp2_with fail
      refine (HT.out _ _ _ _ _ _ _ _ _).mono ?_
      rintro e w2 ⟨rfl, hX⟩
      have S2 := Lib.hid (S1.out.below hX)
      clear hX S1 d0 d1 d2 d3 d4 d5 d6 d7
      have S3 := Lib.hid (S2.out.alloc #[.int .i64 ya] 3).right
      have CX : Hid (Src Tryz.prog 1 57 (.slice (some ⟨w2.heap.size, 0, none⟩) 1 1) 1 [.int .i64 ya] (w2.alloc (.cells #[.int .i64 ya] 3))) := Lib.hid (Src.ofSlice _ Tryz.underlying57 _ 1 1 _ rfl (blk_cells (Blk.new w2 #[.int .i64 ya] 3)) (by intro u hu; simp at hu; subst hu; rfl))
      clear S2
      go_wp2_with (with_reducible refine wpList_append_vec rfl (.tmp 14) (.tmp 18) 57 57 rfl 3 _ 1 8 Tryz.underlying57 infoInt ?c1 ?c2 _ k (nums (D.take k)) ?c7 S3.out.vec (.slice (some ⟨w2.heap.size, 0, none⟩) 1 1) ?c8 1 _ CX.out ?c3 ?c4 ?_)
      case c1 => rfl
      case c2 => decide
      case c3 => unfold maxLen; omega
      case c4 => omega
      case c7 => rfl
      case c8 => rfl
      intro v' w3 hv hc hf
      have S4 := Lib.hid (S3.out.app hv hc hf)
      obtain ⟨A', c', rfl⟩ := hv.slice
      rw [← HTK.out] at S4
      clear S3 CX hv hc hf
      go_wp2_with fail
      go_roundw
      case rel => exact ⟨k + 1, by go_num, by omega, S4⟩
      case measure => simp [intOf]; omega
    · obtain rfl : k = D.length := by omega
      go_wp2_with fail
      go_returns
      refine ⟨_, rfl, ?_⟩
      have := S.out
      rwa [List.take_length] at this
set_option maxHeartbeats 1000000 in
theorem Dirty_any (g gd gl : Nat) (hv ov : Value) (H : List Sh) (D : List Db) (w0 w : World) (C : Asn) (hD : D.length ≤ 100000) (hS : Own w0 No w (aTr g gd gl hv ov H D * C)) :
    Calls Tryz.prog 21 #[tPtr g] w fun e w' => ∃ p, e = .returned p ∧ Own w0 No w' (Asn.vec 72 2 p D.length (dty D) * (aTr g gd gl hv ov H D * C)) := by
  rw [tr_d] at hS ⊢
  have S := Lib.hid hS
  have HE := Lib.hid (fun w h => each_dirty ov D w0 w (Asn.blk g 109 (trRow gd gl hv ov) * (Asn.vec 98 8 hv H.length (shs H) * (aNs H * C))) hD h)
  obtain ⟨-, -, -, c3, -⟩ := tr_cells (S.out.has (Has.r (Has.l (has_blk _ _ _))))
  obtain ⟨A, c, rfl⟩ := hS.vec.slice
  clear hS
  unfold tPtr toldV at *
  go_enter Tryz.func21, Tryz.ntmps21
  go_wp2_with fail
  refine (HE.out _ S.out).mono ?_
  rintro e w2 ⟨p, rfl, hX⟩
  have S2 := Lib.hid hX
  obtain ⟨A2, c2, rfl⟩ := hX.vec.slice
  clear hX S c3 HE
  go_wp2_with fail
  go_returns
  exact ⟨_, rfl, S2.out⟩
set_option maxHeartbeats 1000000 in
theorem Held_any (g gd gl : Nat) (hv ov : Value) (H : List Sh) (D : List Db) (w0 w : World) (C : Asn) (hD : H.length ≤ 100000) (hS : Own w0 No w (aTr g gd gl hv ov H D * C)) :
    Calls Tryz.prog 49 #[tPtr g] w fun e w' => ∃ p, e = .returned p ∧ Own w0 No w' (Asn.vec 3 1 p H.length (nums H) * (aTr g gd gl hv ov H D * C)) := by
  rw [tr_s] at hS ⊢
  have hv7 : ∀ y, y ∈ H → ∃ A n c, y.v = .slice A n c := fun y hy => by
    obtain ⟨A, c, h⟩ := (ns_at hS.right.right.right hy).slice
    exact ⟨A, _, c, h⟩
  have S := Lib.hid hS
  have HE := Lib.hid (fun w h => each_held hv H w0 w (Asn.blk g 109 (trRow gd gl hv ov) * (Asn.vec 114 3 ov D.length (dbs D) * (aNs H * C))) hD hv7 h)
  obtain ⟨-, -, c3, -⟩ := tr_cells (S.out.has (Has.r (Has.l (has_blk _ _ _))))
  obtain ⟨A, c, rfl⟩ := hS.vec.slice
  clear hS
  unfold tPtr num_sheet at *
  go_enter Tryz.func49, Tryz.ntmps49
  go_wp2_with fail
  refine (HE.out _ S.out).mono ?_
  rintro e w2 ⟨p, rfl, hX⟩
  have S2 := Lib.hid hX
  obtain ⟨A2, c2, rfl⟩ := hX.vec.slice
  clear hX S c3 HE
  go_wp2_with fail
  go_returns
  exact ⟨_, rfl, S2.out⟩
end Go.Proofs.YtapdpdhibpblgaaGreatDoor.Tr
end
