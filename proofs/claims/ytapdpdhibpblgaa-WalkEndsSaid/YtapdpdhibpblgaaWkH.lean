/- The answers of walk that the document fixes by number. -/
import Derived.Test.YtapdpdhibpblgaaWkG
import Derived.Deep.RegionHeld3
namespace Go.Proofs.Ytapdpdhibpblgaa.Wk
open Go.ChangeShapes Go.WideShapes Go.ChangeAt Go.RowKit Go.PlainAid Aid Nt Nd Tr Bk
open Ky (keyZ)
set_option linter.unusedVariables false
set_option linter.unusedSimpArgs false
set_option linter.unusedSectionVars false
theorem aw1 : firR (gS 3) 3 (keyZ 3) (nxtQ (keyZ 3)) = (0, some (ek 1)) := by decide +kernel
theorem aw2 : firR (gS 3) 3 (keyZ 4) (aftQ (keyZ 4)) = (0, some (ek 2)) := by decide +kernel
theorem aw3 : gapR (gS 3) 3 (keyZ 6) = (0, endB) := by decide +kernel
set_option maxRecDepth 100000 in
set_option maxHeartbeats 16000000 in
theorem awake11_any (w : World) :
    Calls Try.prog 39 #[] w fun e w' => e = .returned (.bool true) ∧ Below w.heap.size w w' := by
  obtain ⟨hsm, hlv⟩ := g_sm 3 (by decide)
  have HNx := Lib.hid (fun gs V W C h => Next_any gs (gS 3) V hsm hlv 3 (keyZ 3) w W C h)
  have HAf := Lib.hid (fun gs V W C h => After_any gs (gS 3) V hsm hlv 3 (keyZ 4) w W C h)
  have HGa := Lib.hid (fun gs V W C h => Gap_any gs (gS 3) V hsm hlv 3 (keyZ 6) w W C h)
  rw [aw1] at HNx
  rw [aw2] at HAf
  rw [aw3] at HGa
  dsimp only at HNx HAf HGa
  rw [show entCells (fE (some (ek 1))) = #[.string (ofL (keyZ 4)), .string (ofL (List.replicate 40 0)), .bool false] from rfl, show (some (ek 1)).isSome = true from rfl] at HNx
  rw [show entCells (fE (some (ek 2))) = #[.string (ofL (keyZ 6)), .string (ofL (List.replicate 40 0)), .bool false] from rfl, show (some (ek 2)).isSome = true from rfl] at HAf
  unfold pgs at HNx HAf HGa
  unfold endB at HGa
  clear hsm hlv
  generalize ofL (List.replicate 40 0) = z at *
  have S0 := Lib.hid ((Own.none w).alloc #[.int .i64 2, .int .i64 4, .int .i64 6] 3)
  go_enter Try.func39, Try.ntmps39
  go_wp2_with fail
  obtain ⟨gk, hgz⟩ : ∃ g, g = w.heap.size := ⟨_, rfl⟩
  rw [← hgz] at S0 ⊢
  clear hgz
  generalize World.alloc w _ = w1 at *
  have hb := S0.out.has (Has.l (has_blk gk _ _))
  have HGr := Lib.hid (grown3_any gk 3 w1 hb.lt (hb.cell 0) (hb.cell 1) (hb.cell 2))
  clear hb
  refine HGr.out.mono ?_
  rintro e w2 ⟨gs, V, A, c, rfl, hX⟩
  have S2 := Lib.hid ((own_join S0.out hX).re (show _ = (Asn.vec 44 3 (.slice A 3 c) 3 (cells3 (gL 3)) * Asn.blk gk 3 #[.int .i64 2, .int .i64 4, .int .i64 6]) * (aSf gs (gS 3) V * (Asn.emp * Asn.emp)) by ac_rfl)).right
  clear hX S0 HGr
  unfold sPtr
  go_wp2_with fail
  refine (key11_any 3 _ (by decide) (by decide)).mono ?_
  rintro e w3 ⟨rfl, hX⟩
  have S3 := Lib.hid (S2.out.below hX)
  clear hX S2 
  go_wp2_with fail
  refine (HNx.out _ _ _ _ S3.out).mono ?_
  rintro e w4 ⟨rfl, hX⟩
  have S4 := Lib.hid (hX.alloc #[.string (ofL (keyZ 4)), .string z, .bool false] 44)
  clear hX S3 HNx
  go_upto_region 5 with fail
  obtain ⟨g3, hgz⟩ : ∃ g, g = w4.heap.size := ⟨_, rfl⟩
  rw [← hgz] at S4 ⊢
  clear hgz
  generalize World.alloc w4 _ = w5 at *
  go_wp2_with fail
  refine (key11_any 4 _ (by decide) (by decide)).mono ?_
  rintro e w6 ⟨rfl, hX⟩
  have S5 := Lib.hid (S4.out.below hX)
  clear hX S4 
  go_wp2_with fail
  refine (HAf.out _ _ _ _ (S5.out.re (show _ = aSf gs (gS 3) V * (Asn.blk g3 44 #[.string (ofL (keyZ 4)), .string z, .bool false] * (Asn.emp * Asn.emp)) by ac_rfl))).mono ?_
  rintro e w7 ⟨rfl, hX⟩
  have S7 := Lib.hid (hX.alloc #[.string (ofL (keyZ 6)), .string z, .bool false] 44)
  clear hX S5 HAf
  go_upto_region 6 with fail
  obtain ⟨g6, hgz⟩ : ∃ g, g = w7.heap.size := ⟨_, rfl⟩
  rw [← hgz] at S7 ⊢
  clear hgz
  generalize World.alloc w7 _ = w8 at *
  go_wp2_with fail
  refine (key11_any 6 _ (by decide) (by decide)).mono ?_
  rintro e w9 ⟨rfl, hX⟩
  have S8 := Lib.hid (S7.out.below hX)
  clear hX S7 
  go_wp2_with fail
  refine (HGa.out _ _ _ _ (S8.out.re (show _ = aSf gs (gS 3) V * (Asn.blk g6 44 #[.string (ofL (keyZ 6)), .string z, .bool false] * (Asn.blk g3 44 #[.string (ofL (keyZ 4)), .string z, .bool false] * (Asn.emp * Asn.emp))) by ac_rfl))).mono ?_
  rintro e wa ⟨rfl, hX⟩
  have Sa := Lib.hid hX.right
  clear hX S8 HGa
  go_upto_region 7 with fail
  have Sb := Lib.hid Sa.out.drew
  clear Sa
  have F := Lib.hid (fun (W : World) (h : Own w No W (Asn.blk g6 44 #[.string (ofL (keyZ 6)), .string z, .bool false] * (Asn.blk g3 44 #[.string (ofL (keyZ 4)), .string z, .bool false] * (Asn.emp * Asn.emp)))) => (⟨(three_of (h.has (Has.r (Has.l (has_blk g3 _ _))))).1.1, (three_of (h.has (Has.l (has_blk g6 _ _)))).1.1⟩ : W.cell? ⟨g3, 0, none⟩ = some (.string (ofL (keyZ 4))) ∧ W.cell? ⟨g6, 0, none⟩ = some (.string (ofL (keyZ 6)))))
  have tA := F.out _ Sb.out
  go_region_held3 (fun W : World => W.cell? ⟨g3, 0, none⟩ = some (.string (ofL (keyZ 4))) ∧ W.cell? ⟨g6, 0, none⟩ = some (.string (ofL (keyZ 6)))) (first | exact tA | exact tB | exact tC) (first | (go_at_call 41; refine (key11_any 4 _ (by decide) (by decide)).mono ?_; rintro eK wk ⟨rfl, hX⟩; have Sk := Lib.hid (Sb.out.below hX); have tB := F.out _ Sk.out) | (go_at_call 41; refine (key11_any 6 _ (by decide) (by decide)).mono ?_; rintro eK wl ⟨rfl, hX⟩; have Sl := Lib.hid (Sk.out.below hX); have tC := F.out _ Sl.out))
  go_wp2_with fail
  go_returns
  exact ⟨by simp, Sl.out.bel⟩
end Go.Proofs.Ytapdpdhibpblgaa.Wk
