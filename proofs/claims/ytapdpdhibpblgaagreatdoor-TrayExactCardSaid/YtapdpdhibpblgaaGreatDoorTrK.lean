/- awake, of the tray. -/
import Derived.Test.YtapdpdhibpblgaaGreatDoorTrF
namespace Go.Proofs.YtapdpdhibpblgaaGreatDoor.Tr
open Go.ChangeShapes Go.WideShapes Go.ChangeAt Go.RowKit Go.PlainAid Aid Nt Nd Cr
set_option linter.unusedVariables false
set_option linter.unusedSimpArgs false
set_option linter.unusedSectionVars false
def n2 : Nod := ⟨2, 0, 0, false, [], 0, []⟩
theorem n2_fits : fitsB (restamp n2 1) = true := by decide +kernel
theorem empty_ok : OkS (fun _ => none) := fun p x hx => by cases hx
theorem emptyd_ok : OkD (fun _ => none) := fun p x hx => by cases hx
def sA : W3 := ⟨owed (fun _ => none) 3 1, fun _ => Sl.Pg.none, 0⟩
def hA (lv : Value) : Nat → Option Sh := put (fun _ => none) 3 (some ⟨3, restamp n2 1, lv⟩)
def sB : W3 := ⟨put (owed (fun _ => none) 3 1) 3 (some ⟨3, 1, 0⟩), Sl.upd (fun _ => Sl.Pg.none) 3 (Sl.Pg.none.write (ofL (Nd.bytes (restamp n2 1)))), 29⟩
theorem sA_ok : OkD sA.d := owed_ok emptyd_ok 3 1
theorem hA_ok (lv : Value) : OkS (hA lv) := empty_ok.put _ _ fun x hx => by cases hx; rfl
theorem sA_fit (lv : Value) : Fit (Ls 1) sA ⟨3, restamp n2 1, lv⟩ := fun y hy hu => ⟨n2_fits, ok_Ls 1 0 (by omega)⟩
theorem sB_eq (lv : Value) : wr1 (Ls 1) sA ⟨3, restamp n2 1, lv⟩ = sB := by
  have h1 : sA.d 3 = some ⟨3, 1, 1⟩ := rfl
  have h2 := forced_Ls 1 0 0 (by omega) (by omega)
  have h3 := kk_Ls 1 0 (by omega)
  have h4 : forced (Ls 1) (kk (Ls 1) (restamp n2 1).stamp) sA.safe = 29 := by
    rw [show (restamp n2 1).stamp = ((29 * 0 + 1 : Nat) : Int) from rfl, h3]
    show forced (Ls 1) 0 0 = 29
    omega
  unfold wr1
  dsimp only
  rw [h1]
  dsimp only
  rw [if_neg (by decide), h4]
  rfl
theorem sB_ok : OkD sB.d := (owed_ok emptyd_ok 3 1).put _ _ fun x hx => by cases hx; rfl
set_option maxRecDepth 100000 in
set_option maxHeartbeats 8000000 in
theorem awake_any (w0 w : World) (C : Asn) (ht : Tab w0) (hS : Own w0 No w C) :
    Calls Tryz.prog 4 #[] w fun e w' => e = .returned (.bool true) ∧ Below w0.heap.size w0 w' := by
  have S := Lib.hid hS
  have HM := Lib.hid (fun w C h => made_any 4 (by omega) w0 w C ht h)
  have HT := Lib.hid ht
  clear hS ht
  go_enter Tryz.func4, Tryz.ntmps4
  go_wp2_with fail
  refine (HM.out _ _ S.out).mono ?_
  rintro e w1 ⟨y, Y, rfl, hX⟩
  have S1 : Hid (Own w0 No w1 (aB y 4 ⟨y.lv, .slice none 0 0, .slice none 0 0⟩ (fun _ => none) (Ls 0) bare3 (Asn.blk y.gb 42 (bRow y) * Y))) := Lib.hid (hX.re (by unfold aBn aB; dsimp only; rw [show Ls 0 = [] from rfl]; ac_rfl))
  clear hX S HM
  obtain ⟨c0, c1, c2, c3⟩ := b_cells S1.out
  have HAdd := Lib.hid (bAdd y 4 ⟨y.lv, .slice none 0 0, .slice none 0 0⟩ (fun _ => none) bare3 0 (by omega) w0 w1 _ HT.out S1.out)
  rw [show ((29 * 0 + 1 : Nat) : Int) = 1 from rfl, show 0 + 1 = 1 from rfl] at HAdd
  unfold bareV at HAdd
  go_wp2_with fail
  refine HAdd.out.mono ?_
  rintro e w2 ⟨v2, rfl, hX⟩
  have S2 := Lib.hid hX
  clear hX S1 HAdd c0 c1 c2 c3
  obtain ⟨c0, c1, c2, c3⟩ := b_cells S2.out
  have S3 := S2.out.below (blA (Below.refl _ _) (.cells (shZ 3 n2 (.slice none 0 0)) 53))
  have HPut := Lib.hid (bPut_ok y 4 (by omega) v2 (fun _ => none) empty_ok (Ls 1) bare3 emptyd_ok 1 (by omega) (by omega) w2.heap.size 1 3 n2 (.slice none 0 0) (by omega) n2_fits (by decide) w0 _ _ (Row3.nil _) (Blk.new w2 (shZ 3 n2 (.slice none 0 0)) 53) S3)
  change Hid (Calls _ _ _ _ fun e w' => ∃ v' lv, _ ∧ Own w0 No w' (aB y 4 v' (hA lv) (Ls 1) sA _)) at HPut
  clear S3
  unfold shZ n2 at HPut
  dsimp only at HPut
  go_wp2_with fail
  refine HPut.out.mono ?_
  rintro e w3 ⟨v3, lv, rfl, hX⟩
  have S3 := Lib.hid hX
  clear hX S2 HPut c0 c1 c2 c3
  obtain ⟨c0, c1, c2, c3⟩ := b_cells S3.out
  have HD := Lib.hid (bDirty y 4 (by omega) v3 (hA lv) (hA_ok lv) (Ls 1) sA sA_ok w0 w3 _ S3.out)
  rw [show lst sA.d 4 = [⟨3, 1, 1⟩] from rfl] at HD
  go_wp2_with fail
  refine HD.out.mono ?_
  rintro e w4 ⟨p4, rfl, hX⟩
  obtain ⟨b4, m4, rfl⟩ : ∃ b c, p4 = .slice (some ⟨b, 0, none⟩) 1 c := by
    rcases hX.vec.forms with ⟨-, hz⟩ | ⟨g, cap, he, -⟩
    · cases hz
    · exact ⟨_, _, he⟩
  have S4 := Lib.hid (hX.re (show _ = aB y 4 v3 (hA lv) (Ls 1) sA (Asn.blk y.gb 42 (bRow y) * (Asn.vec 72 2 (.slice (some ⟨b4, 0, none⟩) 1 m4) 1 [.int .i64 3, .int .i64 1] * Y)) by unfold aB; show Asn.vec 72 2 (.slice (some ⟨b4, 0, none⟩) 1 m4) 1 [.int .i64 3, .int .i64 1] * _ = _; ac_rfl))
  clear hX S3 HD c0 c1 c2 c3
  obtain ⟨c0, c1, c2, c3⟩ := b_cells S4.out
  have HE := Lib.hid (bEvict_yes y 4 (by omega) v3 (hA lv) (hA_ok lv) (Ls 1) sA sA_ok 3 (by omega) ⟨3, restamp n2 1, lv⟩ rfl (sA_fit lv) w0 w4 _ HT.out S4.out)
  rw [sB_eq lv] at HE
  go_wp2_with fail
  refine HE.out.mono ?_
  rintro e w5 ⟨v5, rfl, hX⟩
  have S5 := Lib.hid hX
  clear hX S4 HE c0 c1 c2 c3
  obtain ⟨c0, c1, c2, c3⟩ := b_cells S5.out
  have hB_ok : OkS (put (hA lv) 3 none) := (hA_ok lv).put _ _ fun x hx => by cases hx
  have HN := Lib.hid (bNode_miss y 4 (by omega) v5 (put (hA lv) 3 none) hB_ok (Ls 1) sB sB_ok 3 (by omega) rfl (Nd.bytes (restamp n2 1)) rfl (restamp n2 1) (Or.inr (Nd.read_bytes _ n2_fits)) (by decide) w0 w5 _ HT.out S5.out)
  dsimp only [nodCells, restamp, n2] at HN
  rw [show ofL ([] : By) = ⟨#[]⟩ from rfl] at HN
  go_wp2_with fail
  refine HN.out.mono ?_
  rintro e w6 ⟨v6, v6', lv6, rfl, hX⟩
  obtain ⟨A6, m6, rfl⟩ := (show Own w0 No w6 (Asn.vec 83 3 v6 0 [] * _) from hX).vec.slice
  have hX := hX.alloc #[.int .i64 2, .int .i64 0, .int .i64 1, .bool false, .string ⟨#[]⟩, .int .i64 0, .slice A6 0 m6] 31
  have S6 := Lib.hid (hX.re (show _ = aB y 4 v6' (put (put (hA lv) 3 none) 3 (some ⟨3, restamp n2 1, lv6⟩)) (Ls 1) sB (Asn.blk y.gb 42 (bRow y) * (Asn.blk w6.heap.size 31 #[.int .i64 2, .int .i64 0, .int .i64 1, .bool false, .string ⟨#[]⟩, .int .i64 0, .slice A6 0 m6] * (Asn.vec 72 2 (.slice (some ⟨b4, 0, none⟩) 1 m4) 1 [.int .i64 3, .int .i64 1] * (aEnts (restamp n2 1) (.slice A6 0 m6) * Y)))) by unfold aB; ac_rfl))
  clear hX S5 HN c0 c1 c2 c3
  have hC_ok : OkS (put (put (hA lv) 3 none) 3 (some ⟨3, restamp n2 1, lv6⟩)) := hB_ok.put _ _ fun x hx => by cases hx; rfl
  generalize put (put (hA lv) 3 none) 3 (some ⟨3, restamp n2 1, lv6⟩) = h6 at *
  obtain ⟨c0, c1, c2, c3⟩ := b_cells S6.out
  have hd4 := S6.out.right.right.right.right.right.right.vec
  have d0 := hd4.cell (j := 0) rfl
  have d1 := hd4.cell (j := 1) rfl
  have k0 := (S6.out.right.right.right.right.right.has (Has.l (has_blk _ _ _))).cell 0
  have k2 := (S6.out.right.right.right.right.right.has (Has.l (has_blk _ _ _))).cell 2
  clear hd4
  have HSf := Lib.hid (bSafe y 4 v6' h6 sB 1 0 (by omega) w0 _ _ S6.out)
  rw [show decide (29 * 0 + 29 ≤ sB.safe) = true from rfl, show ((29 * 0 + 1 : Nat) : Int) = 1 from rfl] at HSf
  go_wp2_with fail
  refine HSf.out.mono ?_
  rintro e w7 ⟨rfl, hX⟩
  have S7 := Lib.hid hX
  clear hX S6 HSf c0 c1 c2 c3 d0 d1 k0 k2
  obtain ⟨c0, c1, c2, c3⟩ := b_cells S7.out
  have k0 := (S7.out.right.right.right.right.right.has (Has.l (has_blk _ _ _))).cell 0
  have k2 := (S7.out.right.right.right.right.right.has (Has.l (has_blk _ _ _))).cell 2
  have HD2 := Lib.hid (bDirty y 4 (by omega) v6' h6 hC_ok (Ls 1) sB sB_ok w0 w7 _ S7.out)
  rw [show lst sB.d 4 = [⟨3, 1, 0⟩] from rfl] at HD2
  go_wp2_with fail
  refine HD2.out.mono ?_
  rintro e w8 ⟨p8, rfl, hX⟩
  obtain ⟨A8, m8, rfl⟩ := hX.vec.slice
  have S8 := Lib.hid hX.right
  clear hX S7 HD2 c0 c1 c2 c3 k0 k2
  obtain ⟨c0, c1, c2, c3⟩ := b_cells S8.out
  have HSy := Lib.hid (bSync y 4 (by omega) v6' h6 hC_ok (Ls 1) sB sB_ok w0 w8 _ S8.out)
  go_wp2_with fail
  refine HSy.out.mono ?_
  rintro e w9 ⟨v9, rfl, hX⟩
  have S9 := Lib.hid hX
  clear hX S8 HSy c0 c1 c2 c3
  obtain ⟨c0, c1, c2, c3⟩ := b_cells S9.out
  have HD3 := Lib.hid (bDirty y 4 (by omega) v9 h6 hC_ok (Ls 1) _ (synced_ok sB_ok) w0 w9 _ S9.out)
  rw [show lst (synced sB.d) 4 = [] from rfl] at HD3
  go_wp2_with fail
  refine HD3.out.mono ?_
  rintro e w10 ⟨p10, rfl, hX⟩
  obtain ⟨A10, m10, rfl⟩ := hX.vec.slice
  have B10 := Lib.hid hX.bel
  clear hX S9 HD3 c0 c1 c2 c3
  go_wp2_with fail
  go_returns
  exact ⟨rfl, B10.out⟩
end Go.Proofs.YtapdpdhibpblgaaGreatDoor.Tr
