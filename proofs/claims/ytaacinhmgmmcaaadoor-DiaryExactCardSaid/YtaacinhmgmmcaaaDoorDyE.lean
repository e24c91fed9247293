/- A log's methods: At, Add. -/
import Derived.Test.YtaacinhmgmmcaaaDoorDyD
import Derived.Test.YtaacinhmgmmcaaaDoorNtX
namespace Go.Proofs.YtaacinhmgmmcaaaDoor.Nt
open Go.ChangeShapes Go.WideShapes Go.ChangeAt Go.RowKit Go.PlainAid Aid Cr
set_option linter.unusedVariables false
set_option linter.unusedSimpArgs false
section
variable (g gr m size : Nat) (v : Value) (L : List Rec) (safe held : Nat)
theorem own_front {w0 w : World} {O0 : Nat → Prop} {A B C : Asn} (h : Own w0 O0 w (A * (B * C))) : Own w0 O0 w (B * (A * C)) := (h.assoc'.imp (Imp.l (fun _ _ => sep_comm))).assoc
theorem ofL_app (a b : By) : ofL a ++ ofL b = ofL (a ++ b) := by
  apply list_inj; rw [ByteArray.data_append, Array.toList_append]; rfl
section
variable {w0 w : World} {O0 : Nat → Prop} {A B C R M V : Asn}
theorem own_rm (h : Own w0 O0 w ((B * R) * (M * C))) : Own w0 O0 w ((R * M) * (B * C)) := own_front (h.assoc.imp (Imp.r (fun _ _ => sep_assoc')))
theorem own_mr (h : Own w0 O0 w ((R * M) * (B * C))) : Own w0 O0 w ((B * R) * (M * C)) := ((own_front h).imp (Imp.r (fun _ _ => sep_assoc))).assoc'
theorem own_vf (h : Own w0 O0 w (R * ((B * V) * C))) : Own w0 O0 w (V * (B * (C * R))) := (h.comm.assoc.imp (Imp.l (fun _ _ => sep_comm))).assoc
theorem own_fv (h : Own w0 O0 w (V * (B * (C * R)))) : Own w0 O0 w (R * ((B * V) * C)) := ((h.assoc'.imp (Imp.l (fun _ _ => sep_comm))).assoc').comm
end
theorem infoWr : (Tryd.prog.info? 80).map (fun i => (i.zero, i.size, i.bytes)) = some (some (.agg #[.int .i64 0, .string ⟨#[]⟩]), 2, 24) := by kernel_rfl
theorem own_join {w0 w w' : World} {O0 : Nat → Prop} {A B : Asn} (h : Own w0 O0 w A) (k : Own w No w' B) : Own w0 O0 w' (B * A) :=
  h.then fun O hO => k.frame hO (fun _ h => h.elim) (fun _ => ⟨Or.inr, fun h => h.elim (fun x => x.elim) id⟩)
set_option maxRecDepth 100000 in
set_option maxHeartbeats 2000000 in
theorem At_hit (k : Nat) (r : Rec) (hk : L[k]? = some r) (hg : goodB r = true) (w0 w : World) (C : Asn) (ht : Tab w0) (hS : Own w0 No w (aLg g gr m size v L safe held * C)) :
    Calls Tryd.prog 20 #[lPtr g, .int .i64 (at_ L k)] w fun e w' => ∃ q, e = .returned (.tuple #[recV r q, .bool true]) ∧ Own w0 No w' (aLists r q * (aLg g gr m size v L safe held * C)) := by
  have HF := Lib.hid (tFind_hit g gr m size v L safe held k r hk)
  have HT := Lib.hid ht
  have S := Lib.hid (hS.alloc zeroCells 45)
  have hr := read_bytes r hg []
  rw [List.append_nil] at hr
  have HR := Lib.hid (fun w ht => Read_own (bytes r) w (by have := small_bytes hg; omega) ht)
  rw [hr] at HR
  clear hS ht hk hr hg
  unfold lPtr wrV zeroCells at *
  generalize at_ L k = a at *
  generalize hn : (bytes r).length = n at *
  generalize ofL (bytes r) = y at *
  go_enter Tryd.func20, Tryd.ntmps20
  go_wp2_with fail
  obtain ⟨gx, hgz⟩ : ∃ g, g = w.heap.size := ⟨_, rfl⟩
  rw [← hgz] at S ⊢
  clear hgz
  generalize w.alloc _ = w1 at *
  refine (S.out.call HF.out.l.r).mono ?_
  rintro e w2 ⟨rfl, hX⟩
  have S1 := Lib.hid (hX.alloc #[.int .i64 a, .string y] 80)
  clear hX S
  go_upto_region 6 with fail
  obtain ⟨gy, hgz⟩ : ∃ g, g = w2.heap.size := ⟨_, rfl⟩
  rw [← hgz] at S1 ⊢
  clear hgz
  generalize w2.alloc _ = w3 at *
  obtain ⟨c0, c1, -, -⟩ := two_wr (S1.out.has (Has.l (has_blk _ _ _)))
  go_wp2_with fail
  refine (HR.out _ (Tab.own HT.out S1.out)).mono ?_
  rintro e w4 ⟨⟨p1, p2, p3⟩, rfl, hX⟩
  have S2 := own_join S1.out.right hX
  unfold rR at S2
  dsimp only at S2
  obtain ⟨A1, m1, rfl⟩ := S2.left.vec.slice
  obtain ⟨A2, m2, rfl⟩ := S2.left.right.vec.slice
  obtain ⟨A3, m3, rfl⟩ := S2.left.right.vecR.slice
  have S3 := Lib.hid (S2.alloc (recCells r (.slice A1 r.pages.length m1) (.slice A2 r.opn.length m2) (.slice A3 r.dty.length m3)) 45)
  clear hX S1 S2 HR c0 c1
  rw [rV_some]
  unfold recV rR
  dsimp only at *
  unfold recCells at *
  go_upto_region 7 with fail
  obtain ⟨gz, hgz⟩ : ∃ g, g = w4.heap.size := ⟨_, rfl⟩
  rw [← hgz] at S3 ⊢
  clear hgz
  generalize w4.alloc _ = w5 at *
  obtain ⟨⟨b0, b1, b2, b3, b4, b5, b6, b7, b8, b9, b10⟩, -⟩ := eleven (S3.out.has (Has.l (has_blk _ _ _)))
  have S4 := Lib.hid (own_front S3.out.right)
  obtain ⟨⟨c0, c1, c2, c3, c4, c5, c6, c7, c8, c9, c10⟩, f0, f1, f2, f3, f4, f5, f6, f7, f8, f9, f10⟩ := eleven (S4.out.has (Has.l (has_blk _ _ _)))
  go_wp2_with fail
  have S7 := Lib.hid (own_eleven S4.out (.int .i64 r.kind) (.int .i64 r.deal) (.int .i64 r.prev) (.int .i64 r.next) (.slice A1 r.pages.length m1) (.int .i64 r.und.kind) (.int .i64 r.und.tree) (.string (ofL r.und.key)) (.string (ofL r.und.val)) (.slice A2 r.opn.length m2) (.slice A3 r.dty.length m3))
  clear S3 S4 b0 b1 b2 b3 b4 b5 b6 b7 b8 b9 b10 c0 c1 c2 c3 c4 c5 c6 c7 c8 c9 c10 f0 f1 f2 f3 f4 f5 f6 f7 f8 f9 f10
  generalize World.setCell (World.setCell (World.setCell (World.setCell (World.setCell (World.setCell (World.setCell (World.setCell (World.setCell (World.setCell (World.setCell w5 _ _) _ _) _ _) _ _) _ _) _ _) _ _) _ _) _ _) _ _) _ _ = w6 at *
  obtain ⟨⟨c0, c1, c2, c3, c4, c5, c6, c7, c8, c9, c10⟩, -⟩ := eleven (S7.out.has (Has.l (has_blk _ _ _)))
  have SE := S7.out.right
  refine bodyPost_ret (v := .tuple #[.agg #[.int .i64 r.kind, .int .i64 r.deal, .int .i64 r.prev, .int .i64 r.next, .slice A1 r.pages.length m1, .int .i64 r.und.kind, .int .i64 r.und.tree, .string (ofL r.und.key), .string (ofL r.und.val), .slice A2 r.opn.length m2, .slice A3 r.dty.length m3], .bool true]) (by simp [results, Tryd.results20, go_sem, c0, c1, c2, c3, c4, c5, c6, c7, c8, c9, c10]) rfl ⟨(.slice A1 r.pages.length m1, .slice A2 r.opn.length m2, .slice A3 r.dty.length m3), rfl, SE⟩
set_option maxRecDepth 100000 in
set_option maxHeartbeats 2000000 in
theorem Add_bad (r : Rec) (va : Value) (hg : goodB r = false) (w0 w : World) (C : Asn) (hv : RecAt w va r) (hS : Own w0 No w C) :
    Calls Tryd.prog 9 #[lPtr g, va] w fun e w' => e = .returned (.tuple #[.int .i64 0, .int .i64 1]) ∧ Own w0 No w' C := by
  obtain ⟨A1, m1, A2, m2, A3, m3, rfl⟩ := hv.form
  have S := Lib.hid (hS.alloc (recCells r (.slice A1 r.pages.length m1) (.slice A2 r.opn.length m2) (.slice A3 r.dty.length m3)) 45)
  have hb9 : Below w.heap.size w (w.alloc (.cells (recCells r (.slice A1 r.pages.length m1) (.slice A2 r.opn.length m2) (.slice A3 r.dty.length m3)) 45)) := blA (Below.refl _ _) _
  have HB := Lib.hid (Bytes_bad r _ _ (hv.keep hb9) hg)
  clear hv hb9 hS hg
  unfold lPtr recCells at *
  go_enter Tryd.func9, Tryd.ntmps9
  go_upto_region 1 with fail
  obtain ⟨gx, hgz⟩ : ∃ g, g = w.heap.size := ⟨_, rfl⟩
  rw [← hgz] at S ⊢
  clear hgz
  generalize w.alloc _ = w1 at *
  obtain ⟨⟨c0, c1, c2, c3, c4, c5, c6, c7, c8, c9, c10⟩, -⟩ := eleven (S.out.has (Has.l (has_blk _ _ _)))
  go_wp2_with fail
  refine HB.out.mono ?_
  rintro e w2 ⟨rfl, hX⟩
  have S1 := Lib.hid (S.out.below hX).right
  clear hX S HB c0 c1 c2 c3 c4 c5 c6 c7 c8 c9 c10
  go_wp2_with fail
  go_returns
  exact ⟨rfl, S1.out⟩
set_option maxRecDepth 100000 in
set_option maxHeartbeats 2000000 in
theorem Add_full (hh : held ≤ 262144) (r : Rec) (va : Value) (hg : goodB r = true) (hfit : (size : Int) - (flat L).length - held < (bytes r).length) (w0 w : World) (C : Asn) (ht : Tab w0) (hv : RecAt w va r) (hS : Own w0 No w (aLg g gr m size v L safe held * C)) :
    Calls Tryd.prog 9 #[lPtr g, va] w fun e w' => e = .returned (.tuple #[.int .i64 0, .int .i64 5]) ∧ Own w0 No w' (aLg g gr m size v L safe held * C) := by
  obtain ⟨A1, m1, A2, m2, A3, m3, rfl⟩ := hv.form
  have S := Lib.hid (hS.alloc (recCells r (.slice A1 r.pages.length m1) (.slice A2 r.opn.length m2) (.slice A3 r.dty.length m3)) 45)
  have hb9 : Below w.heap.size w (w.alloc (.cells (recCells r (.slice A1 r.pages.length m1) (.slice A2 r.opn.length m2) (.slice A3 r.dty.length m3)) 45)) := blA (Below.refl _ _) _
  have HB := Lib.hid (Bytes_good r _ _ (hv.keep hb9) hg (Tab.own ht S.out))
  have HR := Lib.hid (qRoom g gr m size v L safe held hh)
  have hsz : (ofL (bytes r)).size = (bytes r).length := rfl
  clear hv hb9 hS hg ht
  generalize (bytes r).length = n at *
  generalize ofL (bytes r) = y at *
  generalize (size : Int) - (flat L).length - held = R at *
  have hfy : R < (y.size : Int) := by omega
  unfold lPtr recCells at *
  go_enter Tryd.func9, Tryd.ntmps9
  go_upto_region 1 with fail
  obtain ⟨gx, hgz⟩ : ∃ g, g = w.heap.size := ⟨_, rfl⟩
  rw [← hgz] at S ⊢
  clear hgz
  generalize w.alloc _ = w1 at *
  obtain ⟨⟨c0, c1, c2, c3, c4, c5, c6, c7, c8, c9, c10⟩, -⟩ := eleven (S.out.has (Has.l (has_blk _ _ _)))
  go_wp2_with fail
  refine HB.out.mono ?_
  rintro e w2 ⟨rfl, hX⟩
  have S1 := Lib.hid (S.out.below hX).right
  clear hX S HB c0 c1 c2 c3 c4 c5 c6 c7 c8 c9 c10
  go_wp2_with fail
  refine (S1.out.ask HR.out.l).mono ?_
  rintro e w3 ⟨rfl, k, rfl⟩
  have S2 := Lib.hid (S1.out.drewN k)
  clear S1 HR
  generalize w2.drewN k = w3 at *
  go_wp2_with fail
  go_returns
  exact ⟨rfl, S2.out⟩
set_option maxRecDepth 100000 in
set_option maxHeartbeats 4000000 in
theorem Add_ok (hh : held ≤ 262144) (q : Mn.Pw) (hq : q.ans = 0) (r : Rec) (va : Value) (hg : goodB r = true) (hfit : ((bytes r).length : Int) ≤ (size : Int) - (flat L).length - held) (w0 w : World) (C : Asn) (ht : Tab w0) (hv : RecAt w va r)
    (hS : Own w0 No w (aLg g gr m size v L safe held * (Mn.aMn m q * C))) :
    Calls Tryd.prog 9 #[lPtr g, va] w fun e w' => ∃ v', e = .returned (.tuple #[.int .i64 ((flat L).length + 1 : Nat), .int .i64 0]) ∧ Own w0 No w' (aLg g gr m size v' (L ++ [r]) safe held * (Mn.aMn m q.use * C)) := by
  obtain ⟨A1, m1, A2, m2, A3, m3, rfl⟩ := hv.form
  obtain ⟨k1, k2, k3⟩ := lg_fits hS.left
  have hfew := few_recs L
  have S := Lib.hid (hS.alloc (recCells r (.slice A1 r.pages.length m1) (.slice A2 r.opn.length m2) (.slice A3 r.dty.length m3)) 45)
  have hb9 : Below w.heap.size w (w.alloc (.cells (recCells r (.slice A1 r.pages.length m1) (.slice A2 r.opn.length m2) (.slice A3 r.dty.length m3)) 45)) := blA (Below.refl _ _) _
  have HB := Lib.hid (Bytes_good r _ _ (hv.keep hb9) hg (Tab.own ht S.out))
  have HR := Lib.hid (qRoom g gr m size v L safe held hh)
  have HT := Lib.hid (tThere g gr m size v L safe held)
  have HL := Lib.hid (Rl.qLen gr m size (ofL (flat L)) safe)
  have HA := Lib.hid (Rl.tAppend_ok gr m size (ofL (flat L)) safe q (ofL (bytes r)) (by rw [ofL_sz, ofL_sz]; omega) hq)
  rw [ofL_app, ← flat_snoc] at HA
  have hrw := rows_snoc 0 L r
  rw [Nat.zero_add] at hrw
  have HRW := Lib.hid hrw
  rw [ofL_sz] at HL
  have hsz : (ofL (bytes r)).size = (bytes r).length := rfl
  have hw1 : IntKind.i64.wrap (((flat L).length : Int) + 1) = ((flat L).length + 1 : Nat) := by rw [IntKind.wrap_i64]; omega
  clear hv hb9 hS hg ht hrw
  generalize (bytes r).length = n at *
  generalize ofL (bytes r) = y at *
  generalize ((flat L).length + 1 : Nat) = N1 at *
  generalize (size : Int) - (flat L).length - held = R at *
  have hfy : (y.size : Int) ≤ R := by omega
  obtain ⟨A, c, rfl⟩ := S.out.right.left.left.vecR.slice
  unfold lPtr recCells at *
  go_enter Tryd.func9, Tryd.ntmps9
  go_upto_region 1 with fail
  obtain ⟨gx, hgz⟩ : ∃ g, g = w.heap.size := ⟨_, rfl⟩
  rw [← hgz] at S ⊢
  clear hgz
  generalize w.alloc _ = w1 at *
  obtain ⟨⟨c0, c1, c2, c3, c4, c5, c6, c7, c8, c9, c10⟩, -⟩ := eleven (S.out.has (Has.l (has_blk _ _ _)))
  go_wp2_with fail
  refine HB.out.mono ?_
  rintro e w2 ⟨rfl, hX⟩
  have S1 := Lib.hid (S.out.below hX).right
  clear hX S HB c0 c1 c2 c3 c4 c5 c6 c7 c8 c9 c10
  go_wp2_with fail
  refine (S1.out.ask HR.out.l).mono ?_
  rintro e w3 ⟨rfl, k, rfl⟩
  have S2 := Lib.hid (S1.out.drewN k)
  clear S1 HR
  generalize w2.drewN k = w3 at *
  go_upto_region 8 with fail
  have F : Hid (∀ W, Hid (Own w0 No W (aLg g gr m size (.slice A L.length c) L safe held * (Mn.aMn m q * C))) → W.cell? ⟨g, 0, none⟩ = some (.pointer (some ⟨gr, 0, none⟩))) :=
    Lib.hid fun W h => (lg_cells (h.out.has (Has.l (Has.l (Has.l (has_blk _ _ _)))))).1
  have SD := Lib.hid S2.out.drew
  have t0 := F.out _ SD
  go_region_held3 (fun W => (W.cell? ⟨g, 0, none⟩ = some (.pointer (some ⟨gr, 0, none⟩))) ∧ Hid (Own w0 No W (aLg g gr m size (.slice A L.length c) L safe held * (Mn.aMn m q * C)))) (first | exact ⟨t0, SD⟩ | exact ⟨t20, s20⟩ | exact ⟨t21, s21⟩ | exact ⟨F.out _ (by assumption), by assumption⟩) (first | (go_at_call 28; have sx : Hid (Own w0 No _ (aLg g gr m size (.slice A L.length c) L safe held * (Mn.aMn m q * C))) := (by assumption); refine (sx.out.call HT.out.l).mono ?_; rintro e w20 ⟨rfl, hb20⟩; have s20 := Lib.hid hb20; have t20 := F.out _ s20) | (go_at_call 29; have sy : Hid (Own w0 No _ (aLg g gr m size (.slice A L.length c) L safe held * (Mn.aMn m q * C))) := (by assumption); refine (sy.out.ask HL.out.r.l).mono ?_; rintro e w21 ⟨rfl, k21, rfl⟩; have s21 := Lib.hid (sy.out.drewN k21); have t21 := F.out _ s21))
  have S3 := Lib.hid (own_rm s21.out)
  have S3c := (lg_cells (S3.out.has (Has.r (Has.l (Has.l (has_blk _ _ _)))))).1
  clear sx sy s20 t20 s21 t21 SD t0 S2 F hb20 HT HL
  generalize w20.drewN k21 = w4 at *
  go_wp2_with fail
  refine (S3.out.call HA.out.l).mono ?_
  rintro e w5 ⟨rfl, hX⟩
  have S4 := Lib.hid ((own_vf hX).alloc #[.int .i64 N1, .string y] 80).right
  have CX : Hid (Src Tryd.prog 2 64 (.slice (some ⟨w5.heap.size, 0, none⟩) 1 1) 1 [.int .i64 N1, .string y] (w5.alloc (.cells #[.int .i64 N1, .string y] 80))) := Lib.hid (Src.ofSlice _ Tryd.underlying64 _ 1 1 _ rfl (append2 ((Blk.new w5 #[.int .i64 N1, .string y] 80).cell 0) ((Blk.new w5 #[.int .i64 N1, .string y] 80).cell 1)) (by intro u hu; simp at hu; rcases hu with rfl | rfl <;> rfl))
  clear hX S3 S3c HA
  go_wp2_with (with_reducible refine wpList_append_vec rfl (.tmp 44) (.tmp 48) 64 64 rfl 80 _ 2 24 Tryd.underlying64 infoWr ?c1 ?c2 _ L.length (rows 0 L) ?c7 S4.out.vec (.slice (some ⟨w5.heap.size, 0, none⟩) 1 1) ?c8 1 _ CX.out ?c3 ?c4 ?_)
  case c1 => rfl
  case c2 => decide
  case c3 => unfold maxLen; omega
  case c4 => omega
  case c7 => rfl
  case c8 => rfl
  intro v' w6 hv hc hf
  have S5 := Lib.hid (S4.out.app hv hc hf)
  obtain ⟨A', c', rfl⟩ := hv.slice
  clear S4 CX hv hc hf
  obtain ⟨-, c1, -, f1, -⟩ := lg_cells (S5.out.has (Has.r (Has.l (has_blk _ _ _))))
  go_wp2_with fail
  have S6 := S5.out.set (Sets.r (Sets.l (sets_blk g 68 (lgRow gr (.slice A L.length c) held) 1 (.slice A' (L.length + 1) c'))))
  have S7 := own_mr (own_fv S6)
  rw [← HRW.out] at S7
  go_returns
  refine ⟨.slice A' (L.length + 1) c', rfl, ?_⟩
  unfold aLg
  rw [List.length_append, List.length_singleton]
  exact S7
end
end Go.Proofs.YtaacinhmgmmcaaaDoor.Nt
