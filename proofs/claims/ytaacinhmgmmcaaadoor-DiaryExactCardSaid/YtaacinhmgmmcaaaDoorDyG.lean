/- Texts of ours, joined. -/
import Derived.Test.YtaacinhmgmmcaaaDoorDyF
import Derived.Test.YtaacinhmgmmcaaaDoorRlD

-- joined
section
namespace Go.Proofs.YtaacinhmgmmcaaaDoor.Nt
open Go.ChangeShapes Go.WideShapes Go.ChangeAt Go.RowKit Go.PlainAid Aid Cr
set_option linter.unusedVariables false
set_option linter.unusedSimpArgs false
section
variable (gr m size safe : Nat) (q : Mn.Pw) (L : List Rec)
/-- What an opened log comes to. -/
def aOpen (gr m size safe : Nat) (L : List Rec) (p : Nat × Value × Value × List (Rec × Q3)) : Asn :=
  aLg p.1 gr m size p.2.1 L safe 0 * (Asn.vec 97 12 p.2.2.1 L.length (told 0 p.2.2.2) * aRecs p.2.2.2)
theorem own_box {w0 w : World} {O0 : Nat → Prop} {A B C D E F : Asn} (h : Own w0 O0 w (A * (B * (C * (D * (E * F)))))) : Own w0 O0 w (((A * B) * E) * ((C * D) * F)) := by
  -- A * (B * (C * (D * (E * F)))) to (A * B) * (C * (D * (E * F)))
  have h1 := h.assoc'
  have h2 := (h1.imp (Imp.r (Imp.r imp_front))).imp (Imp.r imp_front)
  exact h2.assoc'.imp (Imp.r (fun _ _ => sep_assoc'))
set_option maxRecDepth 100000 in
set_option maxHeartbeats 2000000 in
theorem Open_whole (hq : q.on = true) (hL : ∀ r, r ∈ L → goodB r = true) (w0 w : World) (C : Asn) (ht : Tab w0) (hS : Own w0 No w (Rl.aRl gr m size (ofL (flat L)) safe * (Mn.aMn m q * C))) :
    Calls Tryd.prog 5 #[lPtr gr] w fun e w' => ∃ p : Nat × Value × Value × List (Rec × Q3), (recsOf p.2.2.2 = L ∧ e = .returned (.tuple #[lPtr p.1, p.2.2.1, .int .i64 0])) ∧ Own w0 No w' (aOpen gr m size safe L p * (Mn.aMn m q * C)) := by
  have HR := Lib.hid (Rl.qRead_on gr m size (ofL (flat L)) safe q hq)
  have hfit := hS.get (Fact.l (fun w O (h : Rl.Rl w gr m O size (ofL (flat L)) safe) => (⟨h.small, h.fits⟩ : size ≤ 262144 ∧ (ofL (flat L)).size ≤ size)))
  rw [ofL_sz] at hfit
  have HS := Lib.hid (fun w h => split_any L [] hL read_nil (by rw [List.append_nil]; omega) w0 w (Rl.aRl gr m size (ofL (flat L)) safe * (Mn.aMn m q * C)) ht h)
  rw [List.append_nil] at HS
  have S := Lib.hid hS
  have hsz : (ofL (flat L)).size = (flat L).length := rfl
  clear hS ht hL
  unfold lPtr
  generalize hx : ofL (flat L) = x at *
  have HX := Lib.hid hx
  clear hx
  go_enter Tryd.func5, Tryd.ntmps5
  go_wp2_with fail
  refine (S.out.assoc'.ask HR.out.l).mono ?_
  rintro e w1 ⟨rfl, k, rfl⟩
  have S1 := Lib.hid (S.out.drewN k)
  clear S HR
  generalize w.drewN k = w1 at *
  go_wp2_with fail
  refine (HS.out _ S1.out).mono ?_
  rintro e w2 ⟨⟨v1, v2, M⟩, ⟨hM, rfl⟩, hX⟩
  obtain ⟨A1, c1, rfl⟩ := hX.vec.slice
  obtain ⟨A2, c2, rfl⟩ := hX.right.vec.slice
  have S2 := Lib.hid (own_box (hX.alloc (lgRow gr (.slice A1 L.length c1) 0) 68))
  have hlt : ¬ ((flat L).length : Int) < (x.size : Int) := by omega
  clear hX S1 HS
  unfold lgRow at *
  go_wp2_with fail
  go_returns
  refine ⟨(w2.heap.size, .slice A1 L.length c1, .slice A2 L.length c2, M), ⟨hM, rfl⟩, ?_⟩
  have h := S2.out
  rw [← HX.out] at h
  exact h.assoc'
theorem in3 {X A B D E : Asn} : Imp (X * (A * (B * (D * E)))) (A * (B * (D * (X * E)))) := fun w O h => (Imp.r (Imp.r imp_front)) w O ((Imp.r imp_front) w O (imp_front w O h))
theorem out3 {X A B D E : Asn} : Imp (A * (B * (D * (X * E)))) (X * (A * (B * (D * E)))) := fun w O h => imp_front w O ((Imp.r imp_front) w O ((Imp.r (Imp.r imp_front)) w O h))
set_option maxRecDepth 100000 in
set_option maxHeartbeats 2000000 in
theorem Open_torn (t : By) (ht0 : readR t = none) (htn : t ≠ []) (hq : q.on = true) (hqa : q.ans = 0) (hL : ∀ r, r ∈ L → goodB r = true) (w0 w : World) (C : Asn) (ht : Tab w0) (hS : Own w0 No w (Rl.aRl gr m size (ofL (flat L ++ t)) safe * (Mn.aMn m q * C))) :
    Calls Tryd.prog 5 #[lPtr gr] w fun e w' => ∃ p : Nat × Value × Value × List (Rec × Q3), (recsOf p.2.2.2 = L ∧ e = .returned (.tuple #[lPtr p.1, p.2.2.1, .int .i64 0])) ∧ Own w0 No w' (aOpen gr m size (flat L).length L p * (Mn.aMn m q.use * C)) := by
  have HR := Lib.hid (Rl.qRead_on gr m size (ofL (flat L ++ t)) safe q hq)
  have hfit := hS.get (Fact.l (fun w O (h : Rl.Rl w gr m O size (ofL (flat L ++ t)) safe) => (⟨h.small, h.fits⟩ : size ≤ 262144 ∧ (ofL (flat L ++ t)).size ≤ size)))
  rw [ofL_sz] at hfit
  have HS := Lib.hid (fun w h => split_any L t hL ht0 (by omega) w0 w (Rl.aRl gr m size (ofL (flat L ++ t)) safe * (Mn.aMn m q * C)) ht h)
  have HM := Lib.hid (Rl.tTrim_ok gr m size (ofL (flat L ++ t)) safe q (flat L).length (by rw [ofL_sz, List.length_append]; omega) hqa)
  rw [ofL_take, List.take_left] at HM
  have S := Lib.hid hS
  have hsz : (ofL (flat L ++ t)).size = (flat L).length + t.length := by rw [ofL_sz, List.length_append]
  have htl : 0 < t.length := List.length_pos_iff.2 htn
  clear hS ht hL ht0 htn
  unfold lPtr
  generalize ofL (flat L ++ t) = x at *
  generalize hx : ofL (flat L) = y at *
  have HX := Lib.hid hx
  clear hx
  go_enter Tryd.func5, Tryd.ntmps5
  go_wp2_with fail
  refine (S.out.assoc'.ask HR.out.l).mono ?_
  rintro e w1 ⟨rfl, k, rfl⟩
  have S1 := Lib.hid (S.out.drewN k)
  clear S HR
  generalize w.drewN k = w1 at *
  go_wp2_with fail
  refine (HS.out _ S1.out).mono ?_
  rintro e w2 ⟨⟨v1, v2, M⟩, ⟨hM, rfl⟩, hX⟩
  obtain ⟨A1, c1, rfl⟩ := hX.vec.slice
  obtain ⟨A2, c2, rfl⟩ := hX.right.vec.slice
  have S2 := Lib.hid ((hX.imp out3).imp (Imp.r out3)).assoc'
  have hlt : ((flat L).length : Int) < (x.size : Int) := by omega
  clear hX S1 HS
  go_wp2_with fail
  refine (S2.out.call HM.out.l).mono ?_
  rintro e w3 ⟨rfl, hX⟩
  have S3 := (hX.assoc.imp (Imp.r in3)).imp in3
  have S4 := Lib.hid (own_box (S3.alloc (lgRow gr (.slice A1 L.length c1) 0) 68))
  clear hX S2 HM S3
  unfold lgRow at *
  go_wp2_with fail
  go_returns
  refine ⟨(w3.heap.size, .slice A1 L.length c1, .slice A2 L.length c2, M), ⟨hM, rfl⟩, ?_⟩
  have h := S4.out
  rw [← HX.out] at h
  exact h.assoc'
set_option maxRecDepth 100000 in
set_option maxHeartbeats 2000000 in
theorem Open_down (x : ByteArray) (hq : q.on = false) (w0 w : World) (C : Asn) (hS : Own w0 No w (Rl.aRl gr m size x safe * (Mn.aMn m q * C))) :
    Calls Tryd.prog 5 #[lPtr gr] w fun e w' => e = .returned (.tuple #[.pointer none, .slice none 0 0, .int .i64 4]) ∧ Own w0 No w' (Rl.aRl gr m size x safe * (Mn.aMn m q * C)) := by
  have HR := Lib.hid (Rl.qRead_off gr m size x safe q hq)
  have S := Lib.hid hS
  clear hS
  unfold lPtr
  go_enter Tryd.func5, Tryd.ntmps5
  go_wp2_with fail
  refine (S.out.assoc'.ask HR.out.l).mono ?_
  rintro e w1 ⟨rfl, k, rfl⟩
  have S1 := Lib.hid (S.out.drewN k)
  clear S HR
  generalize w.drewN k = w1 at *
  go_wp2_with fail
  go_returns
  exact ⟨rfl, S1.out⟩
end
set_option maxHeartbeats 400000 in
theorem Open_nil (w : World) : Calls Tryd.prog 5 #[.pointer none] w fun e w' => e = .returned (.tuple #[.pointer none, .slice none 0 0, .int .i64 2]) ∧ w' = w := by
  go_enter Tryd.func5, Tryd.ntmps5
  go_wp2_with fail
  refine (Rl.Read_nil _).mono ?_
  rintro e w' ⟨rfl, rfl⟩
  go_wp2_with fail
  go_returns
  exact ⟨rfl, rfl⟩
end Go.Proofs.YtaacinhmgmmcaaaDoor.Nt
end

-- joined
section
namespace Go.Proofs.YtaacinhmgmmcaaaDoor.Rl
open Go.ChangeShapes Go.WideShapes Go.ChangeAt Go.RowKit Go.PlainAid Aid Mn
set_option linter.unusedVariables false
set_option linter.unusedSimpArgs false

def idle : Pw := ⟨true, -1, 1⟩
theorem idle_use : idle.use = idle := rfl
end Go.Proofs.YtaacinhmgmmcaaaDoor.Rl
end
