/- Texts of ours, joined. -/
import Derived.Test.YtapdpdhibpblgaaGreatDoorTrT
import Derived.Test.YtapdpdhibpblgaaGreatDoorDyC
import Derived.Test.YtapdpdhibpblgaaGreatDoorNdY
import Derived.Test.YtapdpdhibpblgaaGreatDoorApp

-- joined
section
namespace Go.Proofs.YtapdpdhibpblgaaGreatDoor.Tr
open Go.ChangeShapes Go.WideShapes Go.ChangeAt Go.RowKit Go.PlainAid Aid Nt Nd Cr
set_option linter.unusedVariables false
set_option linter.unusedSimpArgs false
/-- How far the log is safe behind a Force. -/
def forced (L : List Rec) (k safe : Nat) : Nat := match L[k]? with
  | some r => if at_ L k + (Nt.bytes r).length ≤ safe + 1 then safe else (flat L).length
  | none => safe
theorem tForce_any (g gr m size : Nat) (v : Value) (L : List Rec) (safe held k : Nat) (hk : k < L.length) :
    Tr Tryz.prog 79 #[lPtr g, .int .i64 (at_ L k)] (aLg g gr m size v L safe held * Mn.aMn m Rl.idle) (.int .i64 0) (aLg g gr m size v L (forced L k safe) held * Mn.aMn m Rl.idle) := by
  have hr : L[k]? = some (L[k]'hk) := List.getElem?_eq_getElem _
  unfold forced
  rw [hr]
  dsimp only
  split
  · rename_i h; exact (tForce_safe g gr m size v L safe held k _ hr h).l
  · rename_i h; exact tForce_sync g gr m size v L safe held Rl.idle rfl k _ hr h
section
variable (X T D M G C : Asn)
theorem wr_f : X * (T * (D * (M * (G * C)))) = (G * M) * (X * (T * (D * C))) := by ac_rfl
theorem wr_d : X * (T * (D * (M * (G * C)))) = (D * M) * (X * (T * (G * C))) := by ac_rfl
theorem dropX (A B C D E F : Asn) : A * (B * (C * (D * (E * F)))) = E * (A * (B * (C * (D * F)))) := by ac_rfl
variable (g gd gl : Nat) (hv ov : Value) (H : List Sh) (E : List Db)
theorem wr_o : X * (aTr g gd gl hv ov H E * C) = Asn.vec 114 3 ov E.length (dbs E) * (Asn.blk g 109 (trRow gd gl hv ov) * (Asn.vec 98 8 hv H.length (shs H) * (aNs H * (X * C)))) := by unfold aTr; ac_rfl
end
section
variable (n g gd gl : Nat) (hn : n ≤ 256) (hv ov : Value) (h : Nat → Option Sh) (d : Nat → Option Db) (ho : OkD d) (p : Nat) (hp : p < n) (nd : Nod) (v : Value)
include hn ho hp
set_option maxRecDepth 100000 in
set_option maxHeartbeats 2000000 in
theorem write_no (hd : ∀ y, d p = some y → y.un = 0) (w0 w : World) (C : Asn) (hvs : ∃ A m c, v = .slice A m c) (hS : Own w0 No w (aTr g gd gl hv ov (lst h n) (lst d n) * C)) :
    Calls Tryz.prog 41 #[tPtr g, .agg (shV p nd v)] w fun e w' => e = .returned (.int .i64 0) ∧ Own w0 No w' (aTr g gd gl hv ov (lst h n) (lst d n) * C) := by
  obtain ⟨A0, m0, c0, rfl⟩ := hvs
  have S := Lib.hid (hS.alloc (shV p nd (.slice A0 m0 c0)) 98)
  obtain ⟨AO, cO, rfl⟩ := hS.left.right.right.vec.slice
  have HP := Lib.hid (fun w hw => place_d ho hn p hp (.slice AO (lst d n).length cO) w hw)
  unfold shV num_debt tPtr at *
  clear hS
  generalize ofL nd.high = zh at *
  go_enter Tryz.func41, Tryz.ntmps41
  go_upto_region 1 with fail
  obtain ⟨g3, hgz⟩ : ∃ g, g = w.heap.size := ⟨_, rfl⟩
  rw [← hgz] at S ⊢
  clear hgz
  generalize w.alloc _ = w1 at *
  generalize HXA : Asn.blk g3 98 #[.int .i64 p, .int .i64 nd.tree, .int .i64 nd.level, .int .i64 nd.stamp, .bool nd.has, .string zh, .int .i64 nd.right, .slice A0 m0 c0] = XA at *
  have F : Hid (∀ W, Hid (Own w0 No W (XA * (aTr g gd gl hv (.slice AO (lst d n).length cO) (lst h n) (lst d n) * C))) → W.cell? ⟨g, 3, none⟩ = some (.slice AO (lst d n).length cO) ∧ W.cell? ⟨g3, 0, none⟩ = some (.int .i64 p)) :=
    Lib.hid fun W h => ⟨(tr_cells (h.out.has (Has.r (Has.l (Has.l (has_blk _ _ _)))))).2.2.2.1, by subst HXA; exact (eight8 (h.out.has (Has.l (has_blk _ _ _)))).1.1⟩
  have SD := Lib.hid S.out.drew
  have t0 := F.out _ SD
  go_region_held3 (fun W => (W.cell? ⟨g, 3, none⟩ = some (.slice AO (lst d n).length cO) ∧ W.cell? ⟨g3, 0, none⟩ = some (.int .i64 p)) ∧ Hid (Own w0 No W (XA * (aTr g gd gl hv (.slice AO (lst d n).length cO) (lst h n) (lst d n) * C)))) (first | exact ⟨t0, SD⟩ | exact ⟨t4, S4⟩) (first | (go_at_call 77; have sx : Hid (Own w0 No _ (XA * (aTr g gd gl hv (.slice AO (lst d n).length cO) (lst h n) (lst d n) * C))) := (by assumption); refine (HP.out _ sx.out.right.left.right.right.vec).mono ?_; rintro e w4 ⟨rfl, hX⟩; have S4 := Lib.hid (sx.out.below hX); have t4 := F.out _ S4))
  clear sx SD t0 F S HP hX
  cases hdp : d p with
  | none =>
    go_wp2_with fail
    go_returns
    exact ⟨rfl, S4.out.right⟩
  | some y =>
    have hlt : (lst d p).length < (lst d n).length := lst_lt d p n hp y hdp
    obtain ⟨b, rfl⟩ : ∃ b, AO = some ⟨b, 0, none⟩ := by
      rcases S4.out.right.left.right.right.vec.forms with ⟨-, hz⟩ | ⟨g, cap, he, -⟩
      · omega
      · cases he; exact ⟨_, rfl⟩
    have d2 : w4.cell? ⟨b, (lst d p).length * 3 + 2, none⟩ = some (.int .i64 y.un) := S4.out.right.left.right.right.vec.cell (by rw [dbs_at _ _ y (lst_get d p n hp y hdp) 2 (by decide)]; rfl)
    rw [hd y hdp] at d2
    obtain ⟨c3, -⟩ := t4
    go_wp2_with fail
    go_returns
    exact ⟨rfl, S4.out.right⟩
set_option maxRecDepth 100000 in
set_option maxHeartbeats 4000000 in
theorem write_yes (m b size gr : Nat) (P : Nat → Sl.Pg) (lv : Value) (L : List Rec) (safe held k : Nat) (hk : k < L.length) (y : Db) (hdp : d p = some y) (hu : y.un ≠ 0) (hx : (⟨p, nd, v⟩ : Sh) ∈ lst h n) (hf : fitsB nd = true) (hst : nd.stamp = (at_ L k : Nat))
    (w0 w : World) (C : Asn) (ht : Tab w0) (hS : Own w0 No w (aTr g gd gl hv ov (lst h n) (lst d n) * (Sl.aDk gd m b n P * (Mn.aMn m Rl.idle * (aLg gl gr m size lv L safe held * C))))) :
    Calls Tryz.prog 41 #[tPtr g, .agg (shV p nd v)] w fun e w' => e = .returned (.int .i64 0) ∧
      Own w0 No w' (aTr g gd gl hv ov (lst h n) (lst (put d p (some ⟨p, y.first, 0⟩)) n) * (Sl.aDk gd m b n (Sl.upd P p ((P p).write (ofL (Nd.bytes nd)))) * (Mn.aMn m Rl.idle * (aLg gl gr m size lv L (forced L k safe) held * C)))) := by
  obtain ⟨A0, c0, hvs⟩ := (ns_at (show Own w0 No w (aNs (lst h n) * C) from by
    have h' := hS
    rw [tr_b] at h'
    exact (h'.right.right.right).re (by ac_rfl : _ = (aNs (lst h n) * C) * (Sl.aDk gd m b n P * (Mn.aMn m Rl.idle * aLg gl gr m size lv L safe held))) |>.left) hx).slice
  dsimp only at hvs
  subst hvs
  have S := Lib.hid (hS.alloc (shV p nd (.slice A0 nd.list.length c0)) 98)
  obtain ⟨AO, cO, rfl⟩ := hS.left.right.right.vec.slice
  have HP := Lib.hid (fun w hw => place_d ho hn p hp (.slice AO (lst d n).length cO) w hw)
  simp only [hdp, Option.isSome_some] at HP
  have HF := Lib.hid (tForce_any gl gr m size lv L safe held k hk)
  have HB := Lib.hid (fun w hv ht => Bytes_fits nd (.agg (nodCells nd (.slice A0 nd.list.length c0))) w hv hf ht)
  have HT := Lib.hid ht
  have HX := Lib.hid hx
  have HW := Lib.hid (Sl.tWrite_ok gd m b n P Rl.idle p (ofL (Nd.bytes nd)) hp (by rw [Nd.ofL_sz]; exact bytes_fits hf) rfl)
  rw [show Rl.idle.use = Rl.idle from rfl] at HW
  rw [← hst] at HF
  have HST := Lib.hid hst
  unfold shV num_debt tPtr lPtr nodCells at *
  clear hS hx hst ht
  obtain ⟨zh, hzh⟩ : ∃ z, z = ofL nd.high := ⟨_, rfl⟩
  rw [← hzh] at S HB ⊢
  have HZH := Lib.hid hzh
  clear hzh
  generalize hY : ofL (Nd.bytes nd) = yb at *
  have HY := Lib.hid hY
  clear hY
  go_enter Tryz.func41, Tryz.ntmps41
  go_upto_region 1 with fail
  obtain ⟨g3, hgz⟩ : ∃ g, g = w.heap.size := ⟨_, rfl⟩
  rw [← hgz] at S ⊢
  clear hgz
  generalize w.alloc _ = w1 at *
  generalize HXA : Asn.blk g3 98 #[.int .i64 p, .int .i64 nd.tree, .int .i64 nd.level, .int .i64 nd.stamp, .bool nd.has, .string zh, .int .i64 nd.right, .slice A0 nd.list.length c0] = XA at *
  have F : Hid (∀ W, Hid (Own w0 No W (XA * (aTr g gd gl hv (.slice AO (lst d n).length cO) (lst h n) (lst d n) * (Sl.aDk gd m b n P * (Mn.aMn m Rl.idle * (aLg gl gr m size lv L safe held * C)))))) → W.cell? ⟨g, 3, none⟩ = some (.slice AO (lst d n).length cO) ∧ W.cell? ⟨g3, 0, none⟩ = some (.int .i64 p)) :=
    Lib.hid fun W h => ⟨(tr_cells (h.out.has (Has.r (Has.l (Has.l (has_blk _ _ _)))))).2.2.2.1, by subst HXA; exact (eight8 (h.out.has (Has.l (has_blk _ _ _)))).1.1⟩
  have SD := Lib.hid S.out.drew
  have t0 := F.out _ SD
  go_region_held3 (fun W => (W.cell? ⟨g, 3, none⟩ = some (.slice AO (lst d n).length cO) ∧ W.cell? ⟨g3, 0, none⟩ = some (.int .i64 p)) ∧ Hid (Own w0 No W (XA * (aTr g gd gl hv (.slice AO (lst d n).length cO) (lst h n) (lst d n) * (Sl.aDk gd m b n P * (Mn.aMn m Rl.idle * (aLg gl gr m size lv L safe held * C))))))) (first | exact ⟨t0, SD⟩ | exact ⟨t4, S4⟩) (first | (go_at_call 77; have sx : Hid (Own w0 No _ (XA * (aTr g gd gl hv (.slice AO (lst d n).length cO) (lst h n) (lst d n) * (Sl.aDk gd m b n P * (Mn.aMn m Rl.idle * (aLg gl gr m size lv L safe held * C)))))) := (by assumption); refine (HP.out _ sx.out.right.left.right.right.vec).mono ?_; rintro e w4 ⟨rfl, hX⟩; have S4 := Lib.hid (sx.out.below hX); have t4 := F.out _ S4))
  clear sx SD t0 F S HP hX
  obtain ⟨c3, -⟩ := t4
  have hlt : (lst d p).length < (lst d n).length := lst_lt d p n hp y hdp
  obtain ⟨b0, rfl⟩ : ∃ b, AO = some ⟨b, 0, none⟩ := by
    rcases S4.out.right.left.right.right.vec.forms with ⟨-, hz⟩ | ⟨g, cap, he, -⟩
    · omega
    · cases he; exact ⟨_, rfl⟩
  have hcu : (dbs (lst d n))[(lst d p).length * 3 + 2]? = some (.int .i64 y.un) := by rw [dbs_at _ _ y (lst_get d p n hp y hdp) 2 (by decide)]; rfl
  have d2 := S4.out.right.left.right.right.vec.cell hcu
  have HCU := Lib.hid hcu
  have hub : ((y.un : Int) == 0) = false := by simpa using hu
  have hui : ¬ ((y.un : Int) = 0) := by omega
  go_upto_region 4 with fail
  have S5 := S4.out.drew
  rw [wr_f] at S5
  have SF := Lib.hid S5
  clear S5
  have G4 : (w4.drew.cell? ⟨g, 1, none⟩ = some (.pointer (some ⟨gl, 0, none⟩)) ∧ w4.drew.cell? ⟨g3, 3, none⟩ = some (.int .i64 nd.stamp)) := ⟨(tr_cells (S4.out.drew.has (Has.r (Has.l (Has.l (has_blk _ _ _)))))).2.1, by subst HXA; exact (eight8 (S4.out.drew.has (Has.l (has_blk _ _ _)))).1.2.2.2.1⟩
  go_region_held3 (fun W => (W.cell? ⟨g, 1, none⟩ = some (.pointer (some ⟨gl, 0, none⟩)) ∧ W.cell? ⟨g3, 3, none⟩ = some (.int .i64 nd.stamp))) (first | exact G4 | exact G5) (first | (go_at_call 79; refine (SF.out.call HF.out.l).mono ?_; rintro e w5 ⟨rfl, hX⟩; rw [← wr_f] at hX; have S5 := Lib.hid hX; have G5 : (w5.cell? ⟨g, 1, none⟩ = some (.pointer (some ⟨gl, 0, none⟩)) ∧ w5.cell? ⟨g3, 3, none⟩ = some (.int .i64 nd.stamp)) := ⟨(tr_cells (S5.out.has (Has.r (Has.l (Has.l (has_blk _ _ _)))))).2.1, by subst HXA; exact (eight8 (S5.out.has (Has.l (has_blk _ _ _)))).1.2.2.2.1⟩))
  clear SF G4 G5 hX S4 c3 d2 HF
  have hrow := ns_at (show Own w0 No w5 (aNs (lst h n) * (XA * (Sl.aDk gd m b n P * (Mn.aMn m Rl.idle * (aLg gl gr m size lv L (forced L k safe) held * C))))) from by
    have h' := S5.out
    rw [wr_o] at h'
    exact h'.right.right.right) HX.out
  have HB2 := Lib.hid (HB.out w5 ⟨.slice A0 nd.list.length c0, by rw [HZH.out]; rfl, hrow⟩ (Tab.own HT.out S5.out))
  clear hrow HB
  obtain ⟨⟨k0, k1, k2, k3, k4, k5, k6, k7⟩, -⟩ : _ ∧ True := ⟨(eight8 (S5.out.has (by subst HXA; exact Has.l (has_blk _ _ _)))).1, trivial⟩
  go_wp2_with fail
  refine HB2.out.mono ?_
  rintro e w6 ⟨rfl, hX⟩
  have S6 := S5.out.below hX
  rw [wr_d] at S6
  have S7 := Lib.hid S6
  clear S6 hX S5 HB2 k0 k1 k2 k3 k4 k5 k6 k7
  go_upto_region 8 with fail
  have SW := Lib.hid S7.out.drew
  have G6 : (w6.drew.cell? ⟨g, 0, none⟩ = some (.pointer (some ⟨gd, 0, none⟩)) ∧ w6.drew.cell? ⟨g3, 0, none⟩ = some (.int .i64 p)) := ⟨(tr_cells (S7.out.drew.has (Has.r (Has.r (Has.l (Has.l (has_blk _ _ _))))))).1, by subst HXA; exact (eight8 (S7.out.drew.has (Has.r (Has.l (has_blk _ _ _))))).1.1⟩
  go_region_held3 (fun W => (W.cell? ⟨g, 0, none⟩ = some (.pointer (some ⟨gd, 0, none⟩)) ∧ W.cell? ⟨g3, 0, none⟩ = some (.int .i64 p))) (first | exact G6 | exact G7) (first | (go_at_call 81; refine (SW.out.call HW.out.l).mono ?_; rintro e w7 ⟨rfl, hX⟩; have S8 := Lib.hid hX; have G7 : (w7.cell? ⟨g, 0, none⟩ = some (.pointer (some ⟨gd, 0, none⟩)) ∧ w7.cell? ⟨g3, 0, none⟩ = some (.int .i64 p)) := ⟨(tr_cells (S8.out.has (Has.r (Has.r (Has.l (Has.l (has_blk _ _ _))))))).1, by subst HXA; exact (eight8 (S8.out.has (Has.r (Has.l (has_blk _ _ _))))).1.1⟩))
  rw [← wr_d, wr_o] at hX
  have S9 := Lib.hid hX
  clear SW G6 G7 S7 S8 hX HW
  have d2 := S9.out.vec.cell HCU.out
  have f2 := S9.out.vec.free ((lst d p).length * 3 + 2)
  obtain ⟨-, -, -, c3, -, f3⟩ := tr_cells (S9.out.has (Has.r (Has.l (has_blk _ _ _))))
  have HE : Hid (dbs (lst (put d p (some ⟨p, y.first, 0⟩)) n) = (dbs (lst d n)).set ((lst d p).length * 3 + 2) (.int .i64 0)) := Lib.hid (by
    have hyp := ho p y hdp
    rw [put_some hp, lst_some hp hdp, dbs_set _ _ y 2 (by decide), dbs_app]
    subst hyp
    rfl)
  have HL : Hid ((lst (put d p (some ⟨p, y.first, 0⟩)) n).length = (lst d n).length) := Lib.hid (by rw [put_some hp, lst_some hp hdp]; simp)
  have S10 := S9.out.set (Sets.l (sets_vec _ _ _ _ _ _ _ (by omega : (lst d p).length * 3 + 2 < (lst d n).length * 3) (.int .i64 0)))
  have S11 := Lib.hid S10
  clear S10
  go_wp2_with fail
  go_returns
  refine ⟨rfl, ?_⟩
  rw [tr_d, HE.out, HL.out]
  exact (S11.out.re (dropX ..)).right
end
end Go.Proofs.YtapdpdhibpblgaaGreatDoor.Tr
end

-- joined
section
namespace Go.Proofs.YtapdpdhibpblgaaGreatDoor.Tr
open Go.ChangeShapes Go.WideShapes Go.ChangeAt Go.RowKit Go.PlainAid Aid Nt Nd Cr
set_option linter.unusedVariables false
set_option linter.unusedSimpArgs false
set_option linter.unusedSectionVars false
/-- A node with another stamp. -/
def restamp (n : Nod) (st : Int) : Nod := ⟨n.tree, n.level, st, n.has, n.high, n.right, n.list⟩
/-- Whether a page can't have a node. -/
def nay (n : Nat) (x : Int) (nd : Nod) : Bool := !(decide (0 ≤ x) && decide (x < n) && fitsB nd)
def shZ (x : Int) (n : Nod) (v : Value) : Array Value := #[.int .i64 x, .int .i64 n.tree, .int .i64 n.level, .int .i64 n.stamp, .bool n.has, .string (ofL n.high), .int .i64 n.right, v]
theorem World.below_drewN (w : World) (k : Nat) : Below w.heap.size w (w.drewN k) := ⟨rfl, rfl, rfl, Nat.le_refl _, fun _ _ => rfl⟩
section
variable (n g gd gl m b : Nat) (hv ov : Value) (H : List Sh) (D : List Db) (P : Nat → Sl.Pg)
set_option maxRecDepth 100000 in
set_option maxHeartbeats 4000000 in
theorem refuses_any (x : Int) (nd : Nod) (v : Value) (w0 w : World) (C : Asn) (hr : Row3 w v nd.list) (hS : Own w0 No w (aTr g gd gl hv ov H D * (Sl.aDk gd m b n P * (Mn.aMn m Rl.idle * C)))) :
    Calls Tryz.prog 36 #[tPtr g, .agg (shZ x nd v)] w fun e w' => e = .returned (.bool (nay n x nd)) ∧ Below w.heap.size w w' := by
  obtain ⟨A0, c0, rfl⟩ := hr.slice
  have S := Lib.hid (hS.alloc (shZ x nd (.slice A0 nd.list.length c0)) 98)
  have B0 : Hid (Below w.heap.size w (w.alloc (.cells (shZ x nd (.slice A0 nd.list.length c0)) 98))) := Lib.hid (blA (Below.refl _ _) _)
  have HL := Lib.hid (Sl.qLen gd m b n P Rl.idle)
  have HF := Lib.hid (fun W (hb : Below w.heap.size w W) => Fits_any nd _ W ⟨_, rfl, hr.keep hb⟩)
  unfold shZ tPtr nodCells at *
  clear hS hr
  by_cases h0 : x < 0
  · have HN : Hid (nay n x nd = true) := Lib.hid (by unfold nay; rw [decide_eq_false (by omega : ¬ 0 ≤ x)]; rfl)
    generalize ofL nd.high = zh at *
    go_enter Tryz.func36, Tryz.ntmps36
    go_upto_region 1 with fail
    obtain ⟨g3, hgz⟩ : ∃ g, g = w.heap.size := ⟨_, rfl⟩
    rw [← hgz] at S ⊢
    clear hgz
    generalize w.alloc _ = w1 at *
    obtain ⟨⟨k0, k1, k2, k3, k4, k5, k6, k7⟩, -⟩ := eight8 (S.out.has (Has.l (has_blk _ _ _)))
    go_region
    go_wp2_with fail
    go_returns
    exact ⟨by rw [HN.out]; rfl, bl B0.out (World.below_drewN _ 1)⟩
  · by_cases h1 : (n : Int) ≤ x
    · have HN : Hid (nay n x nd = true) := Lib.hid (by unfold nay; rw [decide_eq_false (by omega : ¬ x < n)]; simp)
      obtain ⟨zh, hzh⟩ : ∃ z, z = ofL nd.high := ⟨_, rfl⟩
      rw [← hzh] at S B0 HF ⊢
      clear hzh
      go_enter Tryz.func36, Tryz.ntmps36
      go_upto_region 1 with fail
      obtain ⟨g3, hgz⟩ : ∃ g, g = w.heap.size := ⟨_, rfl⟩
      rw [← hgz] at S ⊢
      clear hgz
      generalize w.alloc _ = w1 at *
      have F : Hid (∀ W, Hid (Own w0 No W ((Sl.aDk gd m b n P * Mn.aMn m Rl.idle) * (Asn.blk g3 98 #[.int .i64 x, .int .i64 nd.tree, .int .i64 nd.level, .int .i64 nd.stamp, .bool nd.has, .string zh, .int .i64 nd.right, .slice A0 nd.list.length c0] * (aTr g gd gl hv ov H D * C)))) → W.cell? ⟨g, 0, none⟩ = some (.pointer (some ⟨gd, 0, none⟩)) ∧ W.cell? ⟨g3, 0, none⟩ = some (.int .i64 x) ∧ W.cell? ⟨g3, 1, none⟩ = some (.int .i64 nd.tree) ∧ W.cell? ⟨g3, 2, none⟩ = some (.int .i64 nd.level) ∧ W.cell? ⟨g3, 3, none⟩ = some (.int .i64 nd.stamp) ∧ W.cell? ⟨g3, 4, none⟩ = some (.bool nd.has) ∧ W.cell? ⟨g3, 5, none⟩ = some (.string zh) ∧ W.cell? ⟨g3, 6, none⟩ = some (.int .i64 nd.right) ∧ W.cell? ⟨g3, 7, none⟩ = some (.slice A0 nd.list.length c0)) := Lib.hid fun W h => ⟨(tr_cells (h.out.has (Has.r (Has.r (Has.l (Has.l (has_blk _ _ _))))))).1, (eight8 (h.out.has (Has.r (Has.l (has_blk _ _ _))))).1⟩
      have S1 : Hid (Own w0 No w1 ((Sl.aDk gd m b n P * Mn.aMn m Rl.idle) * (Asn.blk g3 98 #[.int .i64 x, .int .i64 nd.tree, .int .i64 nd.level, .int .i64 nd.stamp, .bool nd.has, .string zh, .int .i64 nd.right, .slice A0 nd.list.length c0] * (aTr g gd gl hv ov H D * C)))) := Lib.hid (S.out.re (by ac_rfl))
      have SD : Hid (Own w0 No w1.drew ((Sl.aDk gd m b n P * Mn.aMn m Rl.idle) * (Asn.blk g3 98 #[.int .i64 x, .int .i64 nd.tree, .int .i64 nd.level, .int .i64 nd.stamp, .bool nd.has, .string zh, .int .i64 nd.right, .slice A0 nd.list.length c0] * (aTr g gd gl hv ov H D * C)))) := Lib.hid (S.out.drew.re (by ac_rfl))
      have B1 : Hid (Below w.heap.size w w1.drew) := Lib.hid (bl B0.out (World.below_drewN _ 1))
      have t0 := F.out _ SD
      obtain ⟨c0', k0, k1, k2, k3, k4, k5, k6, k7⟩ := F.out _ S1
      go_quiet ((go_at_call 71; exact Calls.quiet_of ((S1.out.drewN _).ask HL.out.l)))

      go_wp2_with fail
      go_returns
      exact ⟨by rw [HN.out]; rfl, bl B0.out (World.below_drewN _ _)⟩
    · have hb0 : decide (x < 0) = false := decide_eq_false h0
      have hb1 : decide ((n : Int) ≤ x) = false := decide_eq_false h1
      have HN : Hid (nay n x nd = !fitsB nd) := Lib.hid (by unfold nay; rw [decide_eq_true (by omega : 0 ≤ x), decide_eq_true (by omega : x < n)]; simp)
      obtain ⟨zh, hzh⟩ : ∃ z, z = ofL nd.high := ⟨_, rfl⟩
      rw [← hzh] at S B0 HF ⊢
      clear hzh
      go_enter Tryz.func36, Tryz.ntmps36
      go_upto_region 1 with fail
      obtain ⟨g3, hgz⟩ : ∃ g, g = w.heap.size := ⟨_, rfl⟩
      rw [← hgz] at S ⊢
      clear hgz
      generalize w.alloc _ = w1 at *
      have F : Hid (∀ W, Hid (Own w0 No W ((Sl.aDk gd m b n P * Mn.aMn m Rl.idle) * (Asn.blk g3 98 #[.int .i64 x, .int .i64 nd.tree, .int .i64 nd.level, .int .i64 nd.stamp, .bool nd.has, .string zh, .int .i64 nd.right, .slice A0 nd.list.length c0] * (aTr g gd gl hv ov H D * C)))) → W.cell? ⟨g, 0, none⟩ = some (.pointer (some ⟨gd, 0, none⟩)) ∧ W.cell? ⟨g3, 0, none⟩ = some (.int .i64 x) ∧ W.cell? ⟨g3, 1, none⟩ = some (.int .i64 nd.tree) ∧ W.cell? ⟨g3, 2, none⟩ = some (.int .i64 nd.level) ∧ W.cell? ⟨g3, 3, none⟩ = some (.int .i64 nd.stamp) ∧ W.cell? ⟨g3, 4, none⟩ = some (.bool nd.has) ∧ W.cell? ⟨g3, 5, none⟩ = some (.string zh) ∧ W.cell? ⟨g3, 6, none⟩ = some (.int .i64 nd.right) ∧ W.cell? ⟨g3, 7, none⟩ = some (.slice A0 nd.list.length c0)) := Lib.hid fun W h => ⟨(tr_cells (h.out.has (Has.r (Has.r (Has.l (Has.l (has_blk _ _ _))))))).1, (eight8 (h.out.has (Has.r (Has.l (has_blk _ _ _))))).1⟩
      have S1 : Hid (Own w0 No w1 ((Sl.aDk gd m b n P * Mn.aMn m Rl.idle) * (Asn.blk g3 98 #[.int .i64 x, .int .i64 nd.tree, .int .i64 nd.level, .int .i64 nd.stamp, .bool nd.has, .string zh, .int .i64 nd.right, .slice A0 nd.list.length c0] * (aTr g gd gl hv ov H D * C)))) := Lib.hid (S.out.re (by ac_rfl))
      have SD : Hid (Own w0 No w1.drew ((Sl.aDk gd m b n P * Mn.aMn m Rl.idle) * (Asn.blk g3 98 #[.int .i64 x, .int .i64 nd.tree, .int .i64 nd.level, .int .i64 nd.stamp, .bool nd.has, .string zh, .int .i64 nd.right, .slice A0 nd.list.length c0] * (aTr g gd gl hv ov H D * C)))) := Lib.hid (S.out.drew.re (by ac_rfl))
      have B1 : Hid (Below w.heap.size w w1.drew) := Lib.hid (bl B0.out (World.below_drewN _ 1))
      have t0 := F.out _ SD
      go_region_held3 (fun W => (W.cell? ⟨g, 0, none⟩ = some (.pointer (some ⟨gd, 0, none⟩)) ∧ W.cell? ⟨g3, 0, none⟩ = some (.int .i64 x) ∧ W.cell? ⟨g3, 1, none⟩ = some (.int .i64 nd.tree) ∧ W.cell? ⟨g3, 2, none⟩ = some (.int .i64 nd.level) ∧ W.cell? ⟨g3, 3, none⟩ = some (.int .i64 nd.stamp) ∧ W.cell? ⟨g3, 4, none⟩ = some (.bool nd.has) ∧ W.cell? ⟨g3, 5, none⟩ = some (.string zh) ∧ W.cell? ⟨g3, 6, none⟩ = some (.int .i64 nd.right) ∧ W.cell? ⟨g3, 7, none⟩ = some (.slice A0 nd.list.length c0)) ∧ Hid (Own w0 No W ((Sl.aDk gd m b n P * Mn.aMn m Rl.idle) * (Asn.blk g3 98 #[.int .i64 x, .int .i64 nd.tree, .int .i64 nd.level, .int .i64 nd.stamp, .bool nd.has, .string zh, .int .i64 nd.right, .slice A0 nd.list.length c0] * (aTr g gd gl hv ov H D * C)))) ∧ Hid (Below w.heap.size w W)) (first | exact ⟨t0, SD, B1⟩ | exact ⟨t2, s2, b2⟩ | exact ⟨t3, s3, b3⟩) (first | (go_at_call 71; have sx : Hid (Own w0 No _ ((Sl.aDk gd m b n P * Mn.aMn m Rl.idle) * (Asn.blk g3 98 #[.int .i64 x, .int .i64 nd.tree, .int .i64 nd.level, .int .i64 nd.stamp, .bool nd.has, .string zh, .int .i64 nd.right, .slice A0 nd.list.length c0] * (aTr g gd gl hv ov H D * C)))) := (by assumption); have bx : Hid (Below w.heap.size w _) := (by assumption); refine (sx.out.ask HL.out.l).mono ?_; rintro e w' ⟨rfl, kq, rfl⟩; have s2 := Lib.hid (S1.out.drewN (1 + kq)); have b2 : Hid (Below w.heap.size w _) := Lib.hid (bl B0.out (World.below_drewN w1 (1 + kq))); have t2 := F.out _ s2) | (go_at_call 72; have sy : Hid (Own w0 No _ ((Sl.aDk gd m b n P * Mn.aMn m Rl.idle) * (Asn.blk g3 98 #[.int .i64 x, .int .i64 nd.tree, .int .i64 nd.level, .int .i64 nd.stamp, .bool nd.has, .string zh, .int .i64 nd.right, .slice A0 nd.list.length c0] * (aTr g gd gl hv ov H D * C)))) := (by assumption); have by1 : Hid (Below w.heap.size w _) := (by assumption); refine (HF.out _ by1.out).mono ?_; rintro e w6 ⟨rfl, hX⟩; have s3 := Lib.hid (sy.out.below hX); have b3 : Hid (Below w.heap.size w _) := Lib.hid (bl by1.out hX); have t3 := F.out _ s3))

      go_wp2_with fail
      go_returns
      exact ⟨by rw [HN.out]; rfl, b3.out⟩
end
end Go.Proofs.YtapdpdhibpblgaaGreatDoor.Tr
end
