/- The page of a node; Bytes; Lead. -/
import Derived.Test.YtmbakcphmblobaaDoorNdV
namespace Go.Proofs.YtmbakcphmblobaaDoor.Nd
open Go.ChangeShapes Go.WideShapes Go.ChangeAt Go.RowKit Go.PlainAid Aid Cr Nt
set_option linter.unusedVariables false
set_option linter.unusedSimpArgs false
theorem sealS_ofL (l : By) : sealS (ofL l) = ofL (l ++ tailL (crc l)) := rfl
theorem page_ne (n : Nod) (h : fitsB n = true) : page n ≠ [] := fun e => by have := page_len h; rw [e] at this; cases this
set_option maxRecDepth 100000 in
set_option maxHeartbeats 4000000 in
theorem page_any (w0 w : World) (g : Nat) (n : Nod) (v : Value) (hf : fitsB n = true) (hv : NodAt w0 v n) (ht : Tab w0) (S : Own w0 No w (aBlk 118 g (.pointer none) (.slice none 0 0))) :
    Calls Tryd.prog 56 #[bPtr g, v] w fun e w' => e = .returned (.string (ofL (bytes n))) ∧ Below w0.heap.size w0 w' := by
  have hg := (fits_good hf).1
  have E1 := Lib.hid (fun w' (S : Own w0 No w' (aN g [])) => nod_write w0 w' g [] n v (goods hg) hv S (by decide))
  rw [List.nil_append] at E1
  have EG := Lib.hid (bGrow 118 bldW g 252 (by decide) (by decide))
  have EZ := Lib.hid (tZeros g (body n) 252 (by rw [body_len (goods hg)]; have := (fits_good hf).2; omega))
  rw [show body n ++ List.replicate (252 - (body n).length) 0 = page n from rfl] at EZ
  have EQ := Lib.hid (bString 118 g (page n) (page_ne n hf))
  have ET : Hid (∀ w', Below w0.heap.size w0 w' → Tab w') := Lib.hid (fun w' hb => by
    obtain ⟨h1, h2⟩ := ht
    exact ⟨by have := hb.size; omega, fun i hi => by rw [(bcell hb).1 _ _ h1]; exact h2 i hi⟩)
  have ES := Lib.hid (fun w' (ht : Tab w') => Seal_any (ofL (page n)) w' (by show (page n).length ≤ _; rw [page_len hf]; decide) ht)
  rw [sealS_ofL, show page n ++ tailL (crc (page n)) = bytes n from rfl] at ES
  obtain ⟨p, rfl, hp⟩ := hv
  obtain ⟨A1, m1, rfl⟩ := hp.slice
  have S0 := Lib.hid (S.alloc (nodCells n (.slice A1 n.list.length m1)) 64)
  clear S hf hg hp ht
  generalize page n = pg at *
  generalize ofL pg = x1 at *
  generalize ofL (bytes n) = x2 at *
  unfold nodCells at *
  unfold bPtr at *
  go_enter Tryd.func56, Tryd.ntmps56
  go_wp2_with fail
  obtain ⟨gr, hgz⟩ : ∃ g, g = w.heap.size := ⟨_, rfl⟩
  rw [← hgz] at S0 ⊢
  clear hgz
  generalize w.alloc _ = w1 at *
  refine (S0.out.call EG.out.r).mono ?_
  rintro e w2 ⟨rfl, hX⟩
  have S1 := Lib.hid hX
  clear hX S0
  obtain ⟨c0, c1, c2, c3, c4, c5, c6⟩ := nod_cells (S1.out.has (Has.l (has_blk _ _ _)))
  go_wp2_with fail
  refine (E1.out _ S1.out.right).mono ?_
  rintro e w3 ⟨rfl, hX⟩
  have S2 := Lib.hid hX
  clear hX S1 c0 c1 c2 c3 c4 c5 c6
  go_wp2_with fail
  refine (S2.out.call (EZ.out)).mono ?_
  rintro e w4 ⟨rfl, hX⟩
  have S3 := Lib.hid hX
  clear hX S2 
  go_wp2_with fail
  refine (S3.out.call (EQ.out)).mono ?_
  rintro e w5 ⟨rfl, hX⟩
  have S4 := Lib.hid hX
  clear hX S3 
  go_wp2_with fail
  refine (ES.out _ (ET.out _ S4.out.bel)).mono ?_
  rintro e w6 ⟨rfl, hX⟩
  have S5 := Lib.hid (S4.out.below hX)
  clear hX S4 
  go_wp2_with fail
  go_returns
  exact ⟨rfl, S5.out.bel⟩
def bytesV (n : Nod) : Value := if fitsB n then .tuple #[.string (ofL (bytes n)), .int .i64 0] else if goodB n then .tuple #[.string ⟨#[]⟩, .int .i64 5] else .tuple #[.string ⟨#[]⟩, .int .i64 1]
set_option maxRecDepth 100000 in
set_option maxHeartbeats 4000000 in
theorem Bytes_any (n : Nod) (v : Value) (w : World) (hv : NodAt w v n) (ht : Tab w) :
    Calls Tryd.prog 29 #[v] w fun e w' => e = .returned (bytesV n) ∧ Below w.heap.size w w' := by
  have E1 : Hid (∀ w', Below w.heap.size w w' → _) := Lib.hid (fun w' (hb : Below w.heap.size w w') => Good_any n v w' (hv.keep hb))
  have E2 : Hid (∀ w', Below w.heap.size w w' → _) := Lib.hid (fun w' (hb : Below w.heap.size w w') => Fits_any n v w' (hv.keep hb))
  have E3 := Lib.hid (fun (hf : fitsB n = true) g w' S => page_any w w' g n v hf hv ht S)
  have HFG : Hid (goodB n = false → fitsB n = false) := Lib.hid (fun h => by unfold fitsB; rw [h]; rfl)
  obtain ⟨p, rfl, hp⟩ := hv
  obtain ⟨A1, m1, rfl⟩ := hp.slice
  have S := Lib.hid ((Own.none w).alloc (nodCells n (.slice A1 n.list.length m1)) 64).left
  obtain ⟨R, hR⟩ : ∃ R, R = bytesV n := ⟨_, rfl⟩
  rw [← hR]
  unfold bytesV at hR
  have HR := Lib.hid hR
  clear hR hp ht
  generalize goodB n = b1 at *
  generalize fitsB n = b2 at *
  generalize ofL (bytes n) = x at *
  unfold nodCells at *
  unfold bPtr at *
  go_enter Tryd.func29, Tryd.ntmps29
  go_upto_region 1 with fail
  obtain ⟨g, hgz⟩ : ∃ g, g = w.heap.size := ⟨_, rfl⟩
  rw [← hgz] at S ⊢
  clear hgz
  generalize w.alloc _ = w1 at *
  obtain ⟨c0, c1, c2, c3, c4, c5, c6⟩ := nod_cells (S.out.has (has_blk _ _ _))
  go_wp2_with fail
  refine (E1.out _ S.out.bel).mono ?_
  rintro e w2 ⟨rfl, hX⟩
  have T := Lib.hid (S.out.below hX)
  clear hX S c0 c1 c2 c3 c4 c5 c6
  cases b1
  · have hq : Hid (R = .tuple #[.string ⟨#[]⟩, .int .i64 1]) := Lib.hid (by rw [HR.out, HFG.out (by first | rfl | trivial)]; rfl)
    go_wp2_with fail
    go_returns
    exact ⟨ret_val hq.out.symm, T.out.bel⟩
  obtain ⟨c0, c1, c2, c3, c4, c5, c6⟩ := nod_cells (T.out.has (has_blk _ _ _))
  go_wp2_with fail
  refine (E2.out _ T.out.bel).mono ?_
  rintro e w3 ⟨rfl, hX⟩
  have U := Lib.hid (T.out.below hX)
  clear hX T c0 c1 c2 c3 c4 c5 c6
  cases b2
  · have hq : Hid (R = .tuple #[.string ⟨#[]⟩, .int .i64 5]) := Lib.hid (by rw [HR.out]; rfl)
    go_wp2_with fail
    go_returns
    exact ⟨ret_val hq.out.symm, U.out.bel⟩
  have U1 := Lib.hid (U.out.alloc #[.pointer none, .slice none 0 0] 118)
  have hq : Hid (R = .tuple #[.string x, .int .i64 0]) := Lib.hid (by rw [HR.out]; rfl)
  clear U
  obtain ⟨gb, hgb⟩ : ∃ g, g = w3.heap.size := ⟨_, rfl⟩
  go_upto_region 6 with fail
  rw [← hgb] at U1 ⊢
  clear hgb
  generalize w3.alloc _ = w4 at *
  obtain ⟨c0, c1, c2, c3, c4, c5, c6⟩ := nod_cells (U1.out.has (Has.r (has_blk _ _ _)))
  go_wp2_with fail
  refine (E3.out (by first | rfl | trivial) gb _ U1.out.left).mono ?_
  rintro e w5 ⟨rfl, hX⟩
  have B := Lib.hid hX
  clear hX U1 c0 c1 c2 c3 c4 c5 c6
  go_wp2_with fail
  go_returns
  exact ⟨ret_val hq.out.symm, B.out⟩
theorem Bytes_fits (n : Nod) (v : Value) (w : World) (hv : NodAt w v n) (hf : fitsB n = true) (ht : Tab w) :
    Calls Tryd.prog 29 #[v] w fun e w' => e = .returned (.tuple #[.string (ofL (bytes n)), .int .i64 0]) ∧ Below w.heap.size w w' := by
  have := Bytes_any n v w hv ht
  unfold bytesV at this
  rw [hf, if_pos rfl] at this
  exact this
end Go.Proofs.YtmbakcphmblobaaDoor.Nd
