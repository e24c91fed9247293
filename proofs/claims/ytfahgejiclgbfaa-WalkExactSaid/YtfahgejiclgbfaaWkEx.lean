/- The walk of WalkExact. -/
import Derived.Test.YtfahgejiclgbfaaWkPa
import Derived.Test.YtfahgejiclgbfaaWkX
namespace Go.Proofs.Ytfahgejiclgbfaa.Wk
open Go.ChangeShapes Go.WideShapes Go.ChangeAt Go.RowKit Go.PlainAid Aid Nt Nd Tr Bk
open Ky (keyZ)
set_option linter.unusedVariables false
set_option linter.unusedSimpArgs false
set_option linter.unusedSectionVars false
def en9 : ByteArray := { data := #[255, 255, 255, 255, 255, 255, 255, 255, 255] }
theorem end_gap (l : List Ent) (key : By) : endO (l.find? (aftQ key)) en9 = ofL (gapK l key) := by
  rw [ofL_gap]
  cases l.find? (aftQ key) <;> rfl
theorem gap_some (l : List Ent) (key : By) : ((l.find? (aftQ key)).isSome = true ∧ ofL (gapK l key) = ofL (fE (l.find? (aftQ key))).key) ∨ ((l.find? (aftQ key)).isSome = false ∧ ofL (gapK l key) = en9) := by
  rw [ofL_gap]
  cases l.find? (aftQ key) with
  | some x => exact Or.inl ⟨rfl, rfl⟩
  | none => exact Or.inr ⟨rfl, rfl⟩
set_option maxRecDepth 100000 in
set_option maxHeartbeats 64000000 in
theorem exact_walk (HG : Grown) (A : Option Addr) (m c : Nat) (z : Nat → Int) (dr lo hi : Int) (w : World) (hm : m ≤ maxLen) (hR : IntRow w A m z)
    (l1 : -9223372036854775808 ≤ lo) (l2 : lo ≤ 9223372036854775807) (h1 : -9223372036854775808 ≤ hi) (h2 : hi ≤ 9223372036854775807) :
    Calls Try.prog 7 #[.slice A m c, .int .i64 dr, .int .i64 lo, .int .i64 hi] w fun e w' => e = .returned (.bool true) ∧ Below w.heap.size w w' := by
  have HR := Lib.hid hR
  have HAw := Lib.hid (awake11_any w)
  clear hR
  go_enter Try.func7, Try.ntmps7
  go_wp2_with fail
  refine HAw.out.mono ?_
  rintro e w1 ⟨rfl, hX⟩
  have S1 := Lib.hid (Own.of_below hX)
  clear hX HAw
  have HGr := Lib.hid (HG A m c z dr w1 hm (HR.out.keep S1.out.bel))
  go_wp2_with fail
  refine HGr.out.mono ?_
  rintro e w2 ⟨gs, V, S, l, top, ch, A', c', rfl, hdn, hsm, hlv, hl60, hw0, hX⟩
  have S2 := Lib.hid ((own_join S1.out hX).left.re (show _ = aSf gs S V * (Asn.vec 44 3 (.slice A' l.length c') l.length (cells3 l) * Asn.emp) by ac_rfl))
  clear hX S1 HGr HR
  have hK : ∀ x, x ∈ l → x.key.length ≤ 100 := fun x hx => by rw [hdn.len x hx]; decide
  have HN := Lib.hid (fun W C h => Next_any gs S V hsm hlv 3 (keyZ lo) w W C h)
  rw [hdn.next (keyZ lo) (key_low _)] at HN
  have HA := Lib.hid (fun W C h => After_any gs S V hsm hlv 3 (keyZ lo) w W C h)
  rw [hdn.after (keyZ lo) (key_low _)] at HA
  have HGp := Lib.hid (fun W C h => Gap_any gs S V hsm hlv 3 (keyZ lo) w W C h)
  rw [hdn.gap (keyZ lo) (key_low _)] at HGp
  have HRa := Lib.hid (fun W C h => Range_any gs S V hsm hlv 3 (keyZ lo) (keyZ hi) w W C h)
  rw [hdn.range (keyZ lo) (keyZ hi) (key_low _) (key_low _)] at HRa
  dsimp only at HN HA HGp HRa
  have HF1 := Lib.hid (fun v W hv => refFirst_any l (keyZ lo) false v W (by omega) hv hK (by rw [key_len]; decide))
  rw [show fQ (keyZ lo) false = nxtQ (keyZ lo) from rfl] at HF1
  have HF2 := Lib.hid (fun v W hv => refFirst_any l (keyZ lo) true v W (by omega) hv hK (by rw [key_len]; decide))
  rw [show fQ (keyZ lo) true = aftQ (keyZ lo) from rfl] at HF2
  have HRR := Lib.hid (fun v W hv => refRange_any l (keyZ lo) (keyZ hi) en9 v W (by omega) hv hK (by rw [key_len]; decide) (by rw [key_len]; decide))
  rw [end_gap] at HRR
  have hgs := gap_some l (keyZ lo)
  have hbl : (btw (keyZ lo) (keyZ hi) l).length ≤ 60 := Nat.le_trans (btw_len _ _ _) hl60
  unfold pgs at HN HA HGp HRa
  unfold entCells at HN HA HF1 HF2
  unfold en9 at HRR hgs
  clear hsm hlv hdn hw0 hK
  generalize btw (keyZ lo) (keyZ hi) l = EC at *
  generalize l.find? (nxtQ (keyZ lo)) = o1 at *
  generalize l.find? (aftQ (keyZ lo)) = o2 at *
  generalize ofL (gapK l (keyZ lo)) = g1 at *
  generalize ofL (gapK l (keyZ hi)) = g2 at *
  generalize fE o1 = X1 at *
  generalize fE o2 = X2 at *
  generalize o1.isSome = b1 at *
  generalize o2.isSome = b2 at *
  unfold sPtr
  go_wp2_with fail
  refine (key11_any lo _ l1 l2).mono ?_
  rintro e w3 ⟨rfl, hX⟩
  have S3 := Lib.hid (S2.out.below hX)
  clear hX S2 
  go_wp2_with fail
  refine (key11_any hi _ h1 h2).mono ?_
  rintro e w4 ⟨rfl, hX⟩
  have S4 := Lib.hid (S3.out.below hX)
  clear hX S3 
  go_wp2_with fail
  refine (HN.out _ _ S4.out).mono ?_
  rintro e w5 ⟨rfl, hX⟩
  have S5 := Lib.hid (hX.alloc #[.string (ofL X1.key), .string (ofL X1.val), .bool X1.ghost] 44)
  clear hX S4 HN
  go_upto_region 9 with fail
  obtain ⟨g13, hgz⟩ : ∃ g, g = w5.heap.size := ⟨_, rfl⟩
  rw [← hgz] at S5 ⊢
  clear hgz
  generalize World.alloc w5 _ = w6 at *
  have HF := Lib.hid (HF1.out (.slice A' l.length c') w6 (Row3.of_vec S5.out.right.right.vec))
  clear HF1
  go_wp2_with fail
  refine HF.out.mono ?_
  rintro e w7 ⟨rfl, hX⟩
  have S7 := Lib.hid ((own_join S5.out hX).right.alloc #[.string (ofL X1.key), .string (ofL X1.val), .bool X1.ghost] 44)
  clear hX S5 HF
  go_upto_region 10 with fail
  obtain ⟨g16, hgz⟩ : ∃ g, g = w7.heap.size := ⟨_, rfl⟩
  rw [← hgz] at S7 ⊢
  clear hgz
  generalize World.alloc w7 _ = w8 at *
  obtain ⟨⟨d0, d1, d2⟩, -⟩ := three_of (S7.out.has (Has.l (has_blk g16 _ _)))
  obtain ⟨⟨e0, e1, e2⟩, -⟩ := three_of (S7.out.has (Has.r (Has.l (has_blk g13 _ _))))
  go_upto_region 12 with fail
  clear d0 d1 d2 e0 e1 e2
  go_wp2_with fail
  refine (HA.out _ _ (S7.out.re (show _ = aSf gs S V * (Asn.blk g16 44 #[.string (ofL X1.key), .string (ofL X1.val), .bool X1.ghost] * (Asn.blk g13 44 #[.string (ofL X1.key), .string (ofL X1.val), .bool X1.ghost] * (Asn.vec 44 3 (.slice A' l.length c') l.length (cells3 l) * Asn.emp))) by ac_rfl))).mono ?_
  rintro e w9 ⟨rfl, hX⟩
  have S9 := Lib.hid (hX.re (show _ = Asn.blk g13 44 #[.string (ofL X1.key), .string (ofL X1.val), .bool X1.ghost] * (Asn.blk g16 44 #[.string (ofL X1.key), .string (ofL X1.val), .bool X1.ghost] * (aSf gs S V * (Asn.vec 44 3 (.slice A' l.length c') l.length (cells3 l) * Asn.emp))) by ac_rfl))
  clear hX S7 HA
  obtain ⟨⟨d0, d1, d2⟩, f0, f1, f2⟩ := three_of (S9.out.has (Has.l (has_blk g13 _ _)))
  have Sa := Lib.hid (own_3 S9.out (.string (ofL X2.key)) (.string (ofL X2.val)) (.bool X2.ghost))
  go_upto_region 13 with fail
  clear d0 d1 d2 f0 f1 f2 S9
  generalize World.setCell (World.setCell (World.setCell w9 _ _) _ _) _ _ = wa at *
  have HF := Lib.hid (HF2.out (.slice A' l.length c') wa (Row3.of_vec Sa.out.right.right.right.vec))
  clear HF2
  go_wp2_with fail
  refine HF.out.mono ?_
  rintro e wb ⟨rfl, hX⟩
  have Sb := Lib.hid ((own_join Sa.out hX).right.re (show _ = Asn.blk g16 44 #[.string (ofL X1.key), .string (ofL X1.val), .bool X1.ghost] * (Asn.blk g13 44 #[.string (ofL X2.key), .string (ofL X2.val), .bool X2.ghost] * (aSf gs S V * (Asn.vec 44 3 (.slice A' l.length c') l.length (cells3 l) * Asn.emp))) by ac_rfl))
  clear hX Sa HF
  obtain ⟨⟨d0, d1, d2⟩, f0, f1, f2⟩ := three_of (Sb.out.has (Has.l (has_blk g16 _ _)))
  have Sc := Lib.hid (own_3 Sb.out (.string (ofL X2.key)) (.string (ofL X2.val)) (.bool X2.ghost))
  go_upto_region 14 with fail
  clear d0 d1 d2 f0 f1 f2 Sb
  generalize World.setCell (World.setCell (World.setCell wb _ _) _ _) _ _ = wc at *
  go_wp2_with fail
  refine (HGp.out _ _ (Sc.out.re (show _ = aSf gs S V * (Asn.blk g16 44 #[.string (ofL X2.key), .string (ofL X2.val), .bool X2.ghost] * (Asn.blk g13 44 #[.string (ofL X2.key), .string (ofL X2.val), .bool X2.ghost] * (Asn.vec 44 3 (.slice A' l.length c') l.length (cells3 l) * Asn.emp))) by ac_rfl))).mono ?_
  rintro e wd ⟨rfl, hX⟩
  have Sd := Lib.hid hX
  clear hX Sc HGp
  obtain ⟨⟨d0, d1, d2⟩, -⟩ := three_of (Sd.out.has (Has.r (Has.l (has_blk g16 _ _))))
  obtain ⟨⟨e0, e1, e2⟩, -⟩ := three_of (Sd.out.has (Has.r (Has.r (Has.l (has_blk g13 _ _)))))
  rcases hgs with ⟨rfl, rfl⟩ | ⟨rfl, rfl⟩
  all_goals
    go_upto_region 17 with fail
    clear d0 d1 d2 e0 e1 e2
    as_aux_lemma =>
      go_wp2_with fail
      refine (HRa.out _ _ Sd.out).mono ?_
      rintro e we ⟨v20, rfl, hX⟩
      obtain ⟨A20, c20, rfl⟩ := hX.vec.slice
      have Se := Lib.hid hX
      clear hX Sd HRa
      have HD := Lib.hid (HRR.out (.slice A' l.length c') we (Row3.of_vec Se.out.right.right.right.right.vec))
      clear HRR
      go_wp2_with fail
      refine HD.out.mono ?_
      rintro e wf ⟨v23, rfl, hX⟩
      have hT := own_join Se.out hX
      obtain ⟨A23, c23, rfl⟩ := hT.vec.slice
      have Sf := Lib.hid hT
      clear hT hX Se HD
      have HSm := Lib.hid (same10_any EC (.slice A20 EC.length c20) (.slice A23 EC.length c23) wf (Row3.of_vec Sf.out.right.vec) (Row3.of_vec Sf.out.vec))
      go_wp2_with fail
      refine HSm.out.mono ?_
      rintro e wg ⟨rfl, hX⟩
      have Sg := Lib.hid (own_join Sf.out hX)
      clear hX Sf HSm
      go_wp2_with fail
      go_returns
      exact ⟨by simp, Sg.out.bel⟩
end Go.Proofs.Ytfahgejiclgbfaa.Wk
