/- Texts of ours, joined. -/
import Derived.Test.YtapdpdhibpblgaaGreatDoorDyC
import Derived.Test.YtapdpdhibpblgaaGreatDoorRow
import Derived.Test.YtapdpdhibpblgaaGreatDoorNdY
import Derived.Test.YtapdpdhibpblgaaGreatDoorSep

-- joined
section
namespace Go.Proofs.YtapdpdhibpblgaaGreatDoor.Nt
open Go.ChangeShapes Go.WideShapes Go.ChangeAt Go.RowKit Go.PlainAid Aid Cr
set_option linter.unusedVariables false
set_option linter.unusedSimpArgs false
section
variable (g gr m size : Nat) (v : Value) (L : List Rec) (safe held : Nat)
theorem own_front {w0 w : World} {O0 : Nat → Prop} {A B C : Asn} (h : Own w0 O0 w (A * (B * C))) : Own w0 O0 w (B * (A * C)) := (h.assoc'.imp (Imp.l (fun _ _ => sep_comm))).assoc
theorem ofL_app (a b : By) : ofL a ++ ofL b = ofL (a ++ b) := by
  apply list_inj; rw [ByteArray.data_append, Array.toList_append]; rfl
section
variable {w0 w : World} {O0 : Nat → Prop} {A B C R M V : Asn}
theorem own_rm (h : Own w0 O0 w ((B * R) * (M * C))) : Own w0 O0 w ((R * M) * (B * C)) := own_front (h.assoc.imp (Imp.r (fun _ _ => sep_assoc')))
theorem own_mr (h : Own w0 O0 w ((R * M) * (B * C))) : Own w0 O0 w ((B * R) * (M * C)) := ((own_front h).imp (Imp.r (fun _ _ => sep_assoc))).assoc'
theorem own_vf (h : Own w0 O0 w (R * ((B * V) * C))) : Own w0 O0 w (V * (B * (C * R))) := (h.comm.assoc.imp (Imp.l (fun _ _ => sep_comm))).assoc
theorem own_fv (h : Own w0 O0 w (V * (B * (C * R)))) : Own w0 O0 w (R * ((B * V) * C)) := ((h.assoc'.imp (Imp.l (fun _ _ => sep_comm))).assoc').comm
end
theorem infoWr : (Tryz.prog.info? 93).map (fun i => (i.zero, i.size, i.bytes)) = some (some (.agg #[.int .i64 0, .string ⟨#[]⟩]), 2, 24) := by kernel_rfl
theorem own_join {w0 w w' : World} {O0 : Nat → Prop} {A B : Asn} (h : Own w0 O0 w A) (k : Own w No w' B) : Own w0 O0 w' (B * A) :=
  h.then fun O hO => k.frame hO (fun _ h => h.elim) (fun _ => ⟨Or.inr, fun h => h.elim (fun x => x.elim) id⟩)
set_option maxRecDepth 100000 in
set_option maxHeartbeats 2000000 in
theorem Add_bad (r : Rec) (va : Value) (hg : goodB r = false) (w0 w : World) (C : Asn) (hv : RecAt w va r) (hS : Own w0 No w C) :
    Calls Tryz.prog 8 #[lPtr g, va] w fun e w' => e = .returned (.tuple #[.int .i64 0, .int .i64 1]) ∧ Own w0 No w' C := by
  obtain ⟨A1, m1, A2, m2, A3, m3, rfl⟩ := hv.form
  have S := Lib.hid (hS.alloc (recCells r (.slice A1 r.pages.length m1) (.slice A2 r.opn.length m2) (.slice A3 r.dty.length m3)) 50)
  have hb9 : Below w.heap.size w (w.alloc (.cells (recCells r (.slice A1 r.pages.length m1) (.slice A2 r.opn.length m2) (.slice A3 r.dty.length m3)) 50)) := blA (Below.refl _ _) _
  have HB := Lib.hid (Bytes_bad r _ _ (hv.keep hb9) hg)
  clear hv hb9 hS hg
  unfold lPtr recCells at *
  go_enter Tryz.func8, Tryz.ntmps8
  go_upto_region 1 with fail
  obtain ⟨gx, hgz⟩ : ∃ g, g = w.heap.size := ⟨_, rfl⟩
  rw [← hgz] at S ⊢
  clear hgz
  generalize w.alloc _ = w1 at *
  obtain ⟨⟨c0, c1, c2, c3, c4, c5, c6, c7, c8, c9, c10⟩, -⟩ := eleven (S.out.has (Has.l (has_blk _ _ _)))
  go_wp2_with fail
  refine HB.out.mono ?_
  rintro e w2 ⟨rfl, hX⟩
  have S1 := Lib.hid (S.out.below hX).right
  clear hX S HB c0 c1 c2 c3 c4 c5 c6 c7 c8 c9 c10
  go_wp2_with fail
  go_returns
  exact ⟨rfl, S1.out⟩
set_option maxRecDepth 100000 in
set_option maxHeartbeats 2000000 in
theorem Add_full (hh : held ≤ 262144) (r : Rec) (va : Value) (hg : goodB r = true) (hfit : (size : Int) - (flat L).length - held < (bytes r).length) (w0 w : World) (C : Asn) (ht : Tab w0) (hv : RecAt w va r) (hS : Own w0 No w (aLg g gr m size v L safe held * C)) :
    Calls Tryz.prog 8 #[lPtr g, va] w fun e w' => e = .returned (.tuple #[.int .i64 0, .int .i64 5]) ∧ Own w0 No w' (aLg g gr m size v L safe held * C) := by
  obtain ⟨A1, m1, A2, m2, A3, m3, rfl⟩ := hv.form
  have S := Lib.hid (hS.alloc (recCells r (.slice A1 r.pages.length m1) (.slice A2 r.opn.length m2) (.slice A3 r.dty.length m3)) 50)
  have hb9 : Below w.heap.size w (w.alloc (.cells (recCells r (.slice A1 r.pages.length m1) (.slice A2 r.opn.length m2) (.slice A3 r.dty.length m3)) 50)) := blA (Below.refl _ _) _
  have HB := Lib.hid (Bytes_good r _ _ (hv.keep hb9) hg (Tab.own ht S.out))
  have HR := Lib.hid (qRoom g gr m size v L safe held hh)
  have hsz : (ofL (bytes r)).size = (bytes r).length := rfl
  clear hv hb9 hS hg ht
  generalize (bytes r).length = n at *
  generalize ofL (bytes r) = y at *
  generalize (size : Int) - (flat L).length - held = R at *
  have hfy : R < (y.size : Int) := by omega
  unfold lPtr recCells at *
  go_enter Tryz.func8, Tryz.ntmps8
  go_upto_region 1 with fail
  obtain ⟨gx, hgz⟩ : ∃ g, g = w.heap.size := ⟨_, rfl⟩
  rw [← hgz] at S ⊢
  clear hgz
  generalize w.alloc _ = w1 at *
  obtain ⟨⟨c0, c1, c2, c3, c4, c5, c6, c7, c8, c9, c10⟩, -⟩ := eleven (S.out.has (Has.l (has_blk _ _ _)))
  go_wp2_with fail
  refine HB.out.mono ?_
  rintro e w2 ⟨rfl, hX⟩
  have S1 := Lib.hid (S.out.below hX).right
  clear hX S HB c0 c1 c2 c3 c4 c5 c6 c7 c8 c9 c10
  go_wp2_with fail
  refine (S1.out.ask HR.out.l).mono ?_
  rintro e w3 ⟨rfl, k, rfl⟩
  have S2 := Lib.hid (S1.out.drewN k)
  clear S1 HR
  generalize w2.drewN k = w3 at *
  go_wp2_with fail
  go_returns
  exact ⟨rfl, S2.out⟩
set_option maxRecDepth 100000 in
set_option maxHeartbeats 4000000 in
theorem Add_ok (hh : held ≤ 262144) (q : Mn.Pw) (hq : q.ans = 0) (r : Rec) (va : Value) (hg : goodB r = true) (hfit : ((bytes r).length : Int) ≤ (size : Int) - (flat L).length - held) (w0 w : World) (C : Asn) (ht : Tab w0) (hv : RecAt w va r)
    (hS : Own w0 No w (aLg g gr m size v L safe held * (Mn.aMn m q * C))) :
    Calls Tryz.prog 8 #[lPtr g, va] w fun e w' => ∃ v', e = .returned (.tuple #[.int .i64 ((flat L).length + 1 : Nat), .int .i64 0]) ∧ Own w0 No w' (aLg g gr m size v' (L ++ [r]) safe held * (Mn.aMn m q.use * C)) := by
  obtain ⟨A1, m1, A2, m2, A3, m3, rfl⟩ := hv.form
  obtain ⟨k1, k2, k3⟩ := lg_fits hS.left
  have hfew := few_recs L
  have S := Lib.hid (hS.alloc (recCells r (.slice A1 r.pages.length m1) (.slice A2 r.opn.length m2) (.slice A3 r.dty.length m3)) 50)
  have hb9 : Below w.heap.size w (w.alloc (.cells (recCells r (.slice A1 r.pages.length m1) (.slice A2 r.opn.length m2) (.slice A3 r.dty.length m3)) 50)) := blA (Below.refl _ _) _
  have HB := Lib.hid (Bytes_good r _ _ (hv.keep hb9) hg (Tab.own ht S.out))
  have HR := Lib.hid (qRoom g gr m size v L safe held hh)
  have HT := Lib.hid (tThere g gr m size v L safe held)
  have HL := Lib.hid (Rl.qLen gr m size (ofL (flat L)) safe)
  have HA := Lib.hid (Rl.tAppend_ok gr m size (ofL (flat L)) safe q (ofL (bytes r)) (by rw [ofL_sz, ofL_sz]; omega) hq)
  rw [ofL_app, ← flat_snoc] at HA
  have hrw := rows_snoc 0 L r
  rw [Nat.zero_add] at hrw
  have HRW := Lib.hid hrw
  rw [ofL_sz] at HL
  have hsz : (ofL (bytes r)).size = (bytes r).length := rfl
  have hw1 : IntKind.i64.wrap (((flat L).length : Int) + 1) = ((flat L).length + 1 : Nat) := by rw [IntKind.wrap_i64]; omega
  clear hv hb9 hS hg ht hrw
  generalize (bytes r).length = n at *
  generalize ofL (bytes r) = y at *
  generalize ((flat L).length + 1 : Nat) = N1 at *
  generalize (size : Int) - (flat L).length - held = R at *
  have hfy : (y.size : Int) ≤ R := by omega
  obtain ⟨A, c, rfl⟩ := S.out.right.left.left.vecR.slice
  unfold lPtr recCells at *
  go_enter Tryz.func8, Tryz.ntmps8
  go_upto_region 1 with fail
  obtain ⟨gx, hgz⟩ : ∃ g, g = w.heap.size := ⟨_, rfl⟩
  rw [← hgz] at S ⊢
  clear hgz
  generalize w.alloc _ = w1 at *
  obtain ⟨⟨c0, c1, c2, c3, c4, c5, c6, c7, c8, c9, c10⟩, -⟩ := eleven (S.out.has (Has.l (has_blk _ _ _)))
  go_wp2_with fail
  refine HB.out.mono ?_
  rintro e w2 ⟨rfl, hX⟩
  have S1 := Lib.hid (S.out.below hX).right
  clear hX S HB c0 c1 c2 c3 c4 c5 c6 c7 c8 c9 c10
  go_wp2_with fail
  refine (S1.out.ask HR.out.l).mono ?_
  rintro e w3 ⟨rfl, k, rfl⟩
  have S2 := Lib.hid (S1.out.drewN k)
  clear S1 HR
  generalize w2.drewN k = w3 at *
  go_upto_region 8 with fail
  have F : Hid (∀ W, Hid (Own w0 No W (aLg g gr m size (.slice A L.length c) L safe held * (Mn.aMn m q * C))) → W.cell? ⟨g, 0, none⟩ = some (.pointer (some ⟨gr, 0, none⟩))) :=
    Lib.hid fun W h => (lg_cells (h.out.has (Has.l (Has.l (Has.l (has_blk _ _ _)))))).1
  have SD := Lib.hid S2.out.drew
  have t0 := F.out _ SD
  go_region_held3 (fun W => (W.cell? ⟨g, 0, none⟩ = some (.pointer (some ⟨gr, 0, none⟩))) ∧ Hid (Own w0 No W (aLg g gr m size (.slice A L.length c) L safe held * (Mn.aMn m q * C)))) (first | exact ⟨t0, SD⟩ | exact ⟨t20, s20⟩ | exact ⟨t21, s21⟩ | exact ⟨F.out _ (by assumption), by assumption⟩) (first | (go_at_call 30; have sx : Hid (Own w0 No _ (aLg g gr m size (.slice A L.length c) L safe held * (Mn.aMn m q * C))) := (by assumption); refine (sx.out.call HT.out.l).mono ?_; rintro e w20 ⟨rfl, hb20⟩; have s20 := Lib.hid hb20; have t20 := F.out _ s20) | (go_at_call 31; have sy : Hid (Own w0 No _ (aLg g gr m size (.slice A L.length c) L safe held * (Mn.aMn m q * C))) := (by assumption); refine (sy.out.ask HL.out.r.l).mono ?_; rintro e w21 ⟨rfl, k21, rfl⟩; have s21 := Lib.hid (sy.out.drewN k21); have t21 := F.out _ s21))
  have S3 := Lib.hid (own_rm s21.out)
  have S3c := (lg_cells (S3.out.has (Has.r (Has.l (Has.l (has_blk _ _ _)))))).1
  clear sx sy s20 t20 s21 t21 SD t0 S2 F hb20 HT HL
  generalize w20.drewN k21 = w4 at *
  go_wp2_with fail
  refine (S3.out.call HA.out.l).mono ?_
  rintro e w5 ⟨rfl, hX⟩
  have S4 := Lib.hid ((own_vf hX).alloc #[.int .i64 N1, .string y] 93).right
  have CX : Hid (Src Tryz.prog 2 87 (.slice (some ⟨w5.heap.size, 0, none⟩) 1 1) 1 [.int .i64 N1, .string y] (w5.alloc (.cells #[.int .i64 N1, .string y] 93))) := Lib.hid (Src.ofSlice _ Tryz.underlying87 _ 1 1 _ rfl (append2 ((Blk.new w5 #[.int .i64 N1, .string y] 93).cell 0) ((Blk.new w5 #[.int .i64 N1, .string y] 93).cell 1)) (by intro u hu; simp at hu; rcases hu with rfl | rfl <;> rfl))
  clear hX S3 S3c HA
  go_wp2_with (with_reducible refine wpList_append_vec rfl (.tmp 44) (.tmp 48) 87 87 rfl 93 _ 2 24 Tryz.underlying87 infoWr ?c1 ?c2 _ L.length (rows 0 L) ?c7 S4.out.vec (.slice (some ⟨w5.heap.size, 0, none⟩) 1 1) ?c8 1 _ CX.out ?c3 ?c4 ?_)
  case c1 => rfl
  case c2 => decide
  case c3 => unfold maxLen; omega
  case c4 => omega
  case c7 => rfl
  case c8 => rfl
  intro v' w6 hv hc hf
  have S5 := Lib.hid (S4.out.app hv hc hf)
  obtain ⟨A', c', rfl⟩ := hv.slice
  clear S4 CX hv hc hf
  obtain ⟨-, c1, -, f1, -⟩ := lg_cells (S5.out.has (Has.r (Has.l (has_blk _ _ _))))
  go_wp2_with fail
  have S6 := S5.out.set (Sets.r (Sets.l (sets_blk g 90 (lgRow gr (.slice A L.length c) held) 1 (.slice A' (L.length + 1) c'))))
  have S7 := own_mr (own_fv S6)
  rw [← HRW.out] at S7
  go_returns
  refine ⟨.slice A' (L.length + 1) c', rfl, ?_⟩
  unfold aLg
  rw [List.length_append, List.length_singleton]
  exact S7
end
end Go.Proofs.YtapdpdhibpblgaaGreatDoor.Nt
end

-- joined
section
namespace Go.Proofs.YtapdpdhibpblgaaGreatDoor.Tr
open Go.ChangeShapes Go.WideShapes Go.ChangeAt Go.RowKit Go.PlainAid Aid Nt Nd
set_option linter.unusedVariables false
set_option linter.unusedSimpArgs false
theorem vecChg {w0 w w' : World} {O0 : Nat → Prop} {C : Asn} {e : TypeId} {size n n' : Nat} {v v' : Value} {xs xs' : List Value} (h : Own w0 O0 w (Asn.vec e size v n xs * C)) (h1 : Vec w' e size v' n' xs') (h2 : Chg (VB v) w w') (h3 : Fresh w (VB v) (VB v')) : Own w0 O0 w' (Asn.vec e size v' n' xs' * C) :=
  h.then fun O ⟨X, Y, hX, hC, hd, hO⟩ => (show Own w X w' (Asn.vec e size v' n' xs') from ⟨⟨VB v', ⟨h1, fun _ => Iff.rfl⟩, fun k hk => (h3 k hk).imp (fun x => (hX.2 k).2 x) id⟩, h2.mono (fun i _ hi => (hX.2 i).2 hi)⟩).frame hC hd hO
theorem ents_len (l : List Ent) : (cells3 l).length = l.length * 3 := by
  unfold cells3
  induction l with
  | nil => rfl
  | cons a l ih => rw [List.flatMap_cons, List.length_append, ih, List.length_cons]; simp only [List.length_cons, List.length_nil]; omega
theorem ents_one (l : List Ent) : ∀ v ∈ cells3 l, v.oneCell' = true := by
  intro v hv
  unfold cells3 at hv
  obtain ⟨x, -, hx⟩ := List.mem_flatMap.1 hv
  simp only [List.mem_cons, List.not_mem_nil, or_false] at hx
  rcases hx with rfl | rfl | rfl <;> rfl
theorem ents_src {w W : World} {A : Option Addr} {m c : Nat} {l : List Ent} (h : Row3 w (.slice A m c) l) (hb : Below w.heap.size w W) : l = [] ∨ ∃ a, A = some a ∧ ∀ j u, (cells3 l)[j]? = some u → W.cell? (a.add j) = some u := by
  obtain ⟨A', c', hv, hm, h9⟩ := h.keep hb
  clear h
  cases hv
  rcases h9 with rfl | ⟨b, o, rfl, hl, hc⟩
  · exact Or.inl rfl
  · refine Or.inr ⟨_, rfl, fun j u hj => ?_⟩
    have hlt : j < l.length * 3 := by rw [← ents_len]; exact (List.getElem?_eq_some_iff.1 hj).1
    obtain ⟨x, hx⟩ : ∃ x, l[j / 3]? = some x := ⟨l[j / 3]'(by omega), List.getElem?_eq_getElem _⟩
    obtain ⟨c0, c1, c2⟩ := hc _ _ hx
    have hf := flatMap_at (fun x : Ent => [Value.string (ofL x.key), .string (ofL x.val), .bool x.ghost]) 3 (fun _ => rfl) l (j / 3) (j % 3) x hx (Nat.mod_lt _ (by decide))
    rw [show j / 3 * 3 + j % 3 = j by omega] at hf
    unfold cells3 at hj
    rw [hj] at hf
    rw [Addr.add_lit]
    have h3 : j % 3 = 0 ∨ j % 3 = 1 ∨ j % 3 = 2 := by omega
    rcases h3 with h3 | h3 | h3
    · rw [h3] at hf
      simp only [List.getElem?_cons_zero, Option.some.injEq] at hf
      rw [hf, ← c0]; congr 2; omega
    · rw [h3] at hf
      simp only [List.getElem?_cons_succ, List.getElem?_cons_zero, Option.some.injEq] at hf
      rw [hf, ← c1]; congr 2; omega
    · rw [h3] at hf
      simp only [List.getElem?_cons_succ, List.getElem?_cons_zero, Option.some.injEq] at hf
      rw [hf, ← c2]; congr 2; omega
set_option maxRecDepth 100000 in
set_option maxHeartbeats 2000000 in
theorem clone_ents (p : Value) (l : List Ent) (w : World) (h : Row3 w p l) (hl : l.length ≤ 100000) :
    Calls Tryz.prog 87 #[p] w fun e w' => ∃ p', e = .returned p' ∧ Own w No w' (Asn.vec 83 3 p' l.length (cells3 l)) := by
  obtain ⟨A, c, rfl⟩ := h.slice
  have hq := fun (a : Option Addr) (n c : Nat) (w : World) => Lib.run_eql_slice_nil (P := Tryz.prog) w 29 83 a n c 0 0 Tryz.underlying29
  cases A with
  | none =>
    have hq1 : ∀ w, _ := fun w => hq none 0 c w
    simp only [Option.isNone_none] at hq1
    clear hq
    obtain ⟨A', c', hv, -, h2⟩ := h
    cases hv
    have hnil : l = [] := by
      rcases h2 with h2 | ⟨b, o, h2, -⟩
      · exact h2
      · cases h2
    subst hnil
    go_enter Tryz.func87, Tryz.ntmps87
    go_wp2_with fail
    go_returns
    exact ⟨_, rfl, ((Own.none w).nilVec _ _).left⟩
  | some a =>
    have hq1 : ∀ w, _ := fun w => hq (some a) l.length c w
    simp only [Option.isNone_some] at hq1
    clear hq
    obtain ⟨W1, hW1⟩ : ∃ W1, W1 = w.alloc (.cells #[] 83) := ⟨_, rfl⟩
    have hb1 : Below w.heap.size w W1 := by rw [hW1]; exact blA (Below.refl _ _) _
    have hown : Vec W1 83 3 (.slice (some ⟨w.heap.size, 0, none⟩) 0 0) 0 [] := Vec.built [] (by rw [hW1]; exact heap_alloc_new w _) (Nat.le_refl _) (Nat.zero_le _) rfl rfl
    have hsrc : Src Tryz.prog 3 29 (.slice (some a) l.length c) l.length (cells3 l) W1 := Src.ofSlice W1 Tryz.underlying29 a l.length c (cells3 l) (ents_len l) (by
      rcases ents_src h hb1 with rfl | ⟨a', ha, hc⟩
      · intro j u hj; cases hj
      · cases ha; exact hc) (ents_one l)
    have HO := Lib.hid hown
    have HS := Lib.hid hsrc
    have HB := Lib.hid hb1
    clear h hown hsrc hb1
    subst hW1
    go_enter Tryz.func87, Tryz.ntmps87
    go_wp2_with (at_builtin; refine wpList_append_vec rfl _ _ 29 29 rfl 83 _ 3 40 Tryz.underlying29 infoEnt (by kernel_rfl) (by decide) (.slice (some ⟨w.heap.size, 0, none⟩) 0 0) 0 [] rfl HO.out _ rfl l.length (cells3 l) HS.out (by unfold maxLen; omega) (by omega) ?_; intro v' w' h1 h2 h3)
    go_returns
    have hS : Own w No (w.alloc (.cells #[] 83)) (Asn.vec 83 3 (.slice (some ⟨w.heap.size, 0, none⟩) 0 0) 0 []) := ⟨⟨VB (.slice (some ⟨w.heap.size, 0, none⟩) 0 0), ⟨HO.out, fun _ => Iff.rfl⟩, fun k hk => Or.inr (by simp only [VB, Value.ownBlock, Option.some.injEq] at hk; omega)⟩, Chg.of_below HB.out⟩
    have hS := hS.addEmp
    have h9 := (vecChg hS h1 h2 h3).left
    rw [Nat.zero_add, List.nil_append] at h9
    exact ⟨v', rfl, h9⟩
theorem seven7 {w : World} {g : Nat} {T : TypeId} {a0 a1 a2 a3 a4 a5 a6 : Value} (h : Blk w g T #[a0, a1, a2, a3, a4, a5, a6]) :
    (w.cell? ⟨g, 0, none⟩ = some a0 ∧ w.cell? ⟨g, 1, none⟩ = some a1 ∧ w.cell? ⟨g, 2, none⟩ = some a2 ∧ w.cell? ⟨g, 3, none⟩ = some a3 ∧ w.cell? ⟨g, 4, none⟩ = some a4 ∧ w.cell? ⟨g, 5, none⟩ = some a5 ∧ w.cell? ⟨g, 6, none⟩ = some a6) ∧
    (w.frozen? ⟨g, 0, none⟩ = false ∧ w.frozen? ⟨g, 1, none⟩ = false ∧ w.frozen? ⟨g, 2, none⟩ = false ∧ w.frozen? ⟨g, 3, none⟩ = false ∧ w.frozen? ⟨g, 4, none⟩ = false ∧ w.frozen? ⟨g, 5, none⟩ = false ∧ w.frozen? ⟨g, 6, none⟩ = false) :=
  ⟨⟨h.cell 0, h.cell 1, h.cell 2, h.cell 3, h.cell 4, h.cell 5, h.cell 6⟩, h.free 0, h.free 1, h.free 2, h.free 3, h.free 4, h.free 5, h.free 6⟩
set_option maxHeartbeats 1000000 in
/-- A node that shares no list. -/
theorem alone_any (n : Nod) (p : Value) (w : World) (h : Row3 w p n.list) (hl : n.list.length ≤ 100000) :
    Calls Tryz.prog 48 #[.agg (nodCells n p)] w fun e w' => ∃ p', e = .returned (.agg (nodCells n p')) ∧ Own w No w' (Asn.vec 83 3 p' n.list.length (cells3 n.list)) := by
  have S := Lib.hid ((Own.none w).alloc (nodCells n p) 31)
  have HC := Lib.hid (fun W (hb : Below w.heap.size w W) => clone_ents p n.list W (h.keep hb) hl)
  unfold nodCells at *
  clear h
  go_enter Tryz.func48, Tryz.ntmps48
  have S2 := Lib.hid (S.out.alloc #[.int .i64 0, .int .i64 0, .int .i64 0, .bool false, .string ⟨#[]⟩, .int .i64 0, .slice none 0 0] 31)
  clear S
  go_wp2_with fail
  refine (HC.out _ S2.out.bel).mono ?_
  rintro e w3 ⟨p', rfl, hX⟩
  have T := Lib.hid (own_join S2.out hX)
  clear hX S2 HC
  obtain ⟨A', c', rfl⟩ := T.out.vec.slice
  have hsz : (w.alloc (.cells #[.int .i64 n.tree, .int .i64 n.level, .int .i64 n.stamp, .bool n.has, .string (ofL n.high), .int .i64 n.right, p] 31)).heap.size = w.heap.size + 1 := by simp
  rw [hsz] at T
  clear hsz
  generalize w.heap.size = g at *
  obtain ⟨⟨c0, c1, c2, c3, c4, c5, c6⟩, f0, f1, f2, f3, f4, f5, f6⟩ := seven7 (T.out.has (Has.r (Has.r (Has.l (has_blk _ _ _)))))
  obtain ⟨⟨d0, d1, d2, d3, d4, d5, d6⟩, k0, k1, k2, k3, k4, k5, k6⟩ := seven7 (T.out.has (Has.r (Has.l (has_blk _ _ _))))
  go_wp2_with fail
  have T2 := Lib.hid (own_seven (own_front (T.out.set (Sets.r (Sets.r (Sets.l (sets_blk g 31 _ 6 (.slice A' n.list.length c'))))))) (.int .i64 n.tree) (.int .i64 n.level) (.int .i64 n.stamp) (.bool n.has) (.string (ofL n.high)) (.int .i64 n.right) (.slice A' n.list.length c'))
  clear T c0 c1 c2 c3 c4 c5 c6 d0 d1 d2 d3 d4 d5 d6 f0 f1 f2 f3 f4 f5 f6 k0 k1 k2 k3 k4 k5 k6
  generalize World.setCell (World.setCell (World.setCell (World.setCell (World.setCell (World.setCell (World.setCell (World.setCell w3 _ _) _ _) _ _) _ _) _ _) _ _) _ _) _ _ = w4 at *
  obtain ⟨⟨c0, c1, c2, c3, c4, c5, c6⟩, -⟩ := seven7 (T2.out.has (Has.l (has_blk _ _ _)))
  exact bodyPost_ret (v := .agg #[.int .i64 n.tree, .int .i64 n.level, .int .i64 n.stamp, .bool n.has, .string (ofL n.high), .int .i64 n.right, .slice A' n.list.length c']) (by simp [results, Tryz.results48, go_sem, c0, c1, c2, c3, c4, c5, c6]) rfl ⟨_, rfl, T2.out.right.left⟩
end Go.Proofs.YtapdpdhibpblgaaGreatDoor.Tr
end

-- joined
section
namespace Go.Proofs.YtapdpdhibpblgaaGreatDoor.Aid
open Go.ChangeShapes Go.WideShapes Go.ChangeAt Go.RowKit Go.PlainAid
set_option linter.unusedVariables false
theorem Asn.same {A B : Asn} (h : ∀ w O, A.P w O ↔ B.P w O) : A = B := by
  obtain ⟨P, a, b⟩ := A
  obtain ⟨Q, c, d⟩ := B
  have e : P = Q := by funext w O; exact propext (h w O)
  subst e
  rfl
theorem Asn.comm (A B : Asn) : A * B = B * A := Asn.same fun w O => ⟨sep_comm, sep_comm⟩
theorem Asn.assoc (A B C : Asn) : A * B * C = A * (B * C) := Asn.same fun w O => ⟨sep_assoc, sep_assoc'⟩
instance : Std.Commutative (α := Asn) (· * ·) := ⟨Asn.comm⟩
instance : Std.Associative (α := Asn) (· * ·) := ⟨Asn.assoc⟩
section
variable {w0 w : World} {O0 : Nat → Prop} {A B C D E F : Asn}
theorem Own.re (h : Own w0 O0 w A) (e : A = B) : Own w0 O0 w B := e ▸ h
end
end Go.Proofs.YtapdpdhibpblgaaGreatDoor.Aid
end
