/- A page taken. -/
import Derived.Test.YtapdpdhibpblgaaGreatDoorTrA
import Derived.Deep.MidRow
namespace Go.Proofs.YtapdpdhibpblgaaGreatDoor.Tr
open Go.ChangeShapes Go.WideShapes Go.ChangeAt Go.RowKit Go.PlainAid Aid Nt Nd
set_option linter.unusedVariables false
set_option linter.unusedSimpArgs false
theorem eight8 {w : World} {g : Nat} {T : TypeId} {a0 a1 a2 a3 a4 a5 a6 a7 : Value} (h : Blk w g T #[a0, a1, a2, a3, a4, a5, a6, a7]) :
    (w.cell? ⟨g, 0, none⟩ = some a0 ∧ w.cell? ⟨g, 1, none⟩ = some a1 ∧ w.cell? ⟨g, 2, none⟩ = some a2 ∧ w.cell? ⟨g, 3, none⟩ = some a3 ∧ w.cell? ⟨g, 4, none⟩ = some a4 ∧ w.cell? ⟨g, 5, none⟩ = some a5 ∧ w.cell? ⟨g, 6, none⟩ = some a6 ∧ w.cell? ⟨g, 7, none⟩ = some a7) ∧
    (w.frozen? ⟨g, 0, none⟩ = false ∧ w.frozen? ⟨g, 1, none⟩ = false ∧ w.frozen? ⟨g, 2, none⟩ = false ∧ w.frozen? ⟨g, 3, none⟩ = false ∧ w.frozen? ⟨g, 4, none⟩ = false ∧ w.frozen? ⟨g, 5, none⟩ = false ∧ w.frozen? ⟨g, 6, none⟩ = false ∧ w.frozen? ⟨g, 7, none⟩ = false) :=
  ⟨⟨h.cell 0, h.cell 1, h.cell 2, h.cell 3, h.cell 4, h.cell 5, h.cell 6, h.cell 7⟩, h.free 0, h.free 1, h.free 2, h.free 3, h.free 4, h.free 5, h.free 6, h.free 7⟩
theorem own_8 {w0 w : World} {O0 : Nat → Prop} {A : Asn} {g : Nat} {T : TypeId} {x a0 a1 a2 a3 a4 a5 a6 : Value} (h : Own w0 O0 w (Asn.blk g T #[x, a0, a1, a2, a3, a4, a5, a6] * A)) (b0 b1 b2 b3 b4 b5 b6 : Value) :
    Own w0 O0 (((((((w.setCell ⟨g, 1, none⟩ b0).setCell ⟨g, 2, none⟩ b1).setCell ⟨g, 3, none⟩ b2).setCell ⟨g, 4, none⟩ b3).setCell ⟨g, 5, none⟩ b4).setCell ⟨g, 6, none⟩ b5).setCell ⟨g, 7, none⟩ b6) (Asn.blk g T #[x, b0, b1, b2, b3, b4, b5, b6] * A) :=
  set_l (set_l (set_l (set_l (set_l (set_l (set_l h 1 b0 #[x, b0, a1, a2, a3, a4, a5, a6] rfl) 2 b1 #[x, b0, b1, a2, a3, a4, a5, a6] rfl) 3 b2 #[x, b0, b1, b2, a3, a4, a5, a6] rfl) 4 b3 #[x, b0, b1, b2, b3, a4, a5, a6] rfl) 5 b4 #[x, b0, b1, b2, b3, b4, a5, a6] rfl) 6 b5 #[x, b0, b1, b2, b3, b4, b5, a6] rfl) 7 b6 #[x, b0, b1, b2, b3, b4, b5, b6] rfl
def shV (p : Nat) (n : Nod) (v : Value) : Array Value := #[.int .i64 p, .int .i64 n.tree, .int .i64 n.level, .int .i64 n.stamp, .bool n.has, .string (ofL n.high), .int .i64 n.right, v]
theorem shs_one (H : List Sh) (hv : ∀ x, x ∈ H → ∃ A m c, x.v = .slice A m c) : ∀ v, v ∈ shs H → v.oneCell' = true := by
  intro v hv'
  obtain ⟨x, hx, hx'⟩ := List.mem_flatMap.1 hv'
  obtain ⟨A, m, c, hs⟩ := hv x hx
  simp only [shC, List.mem_cons, List.not_mem_nil, or_false] at hx'
  rcases hx' with rfl | rfl | rfl | rfl | rfl | rfl | rfl | rfl <;> first | rfl | (rw [hs]; rfl)
section
variable (g gd gl : Nat) (hv ov : Value) (H : List Sh) (D : List Db) (C X E S2 D2 : Asn)
theorem tk_in : X * (E * (aTr g gd gl hv ov H D * C)) = Asn.vec 98 8 hv H.length (shs H) * (Asn.blk g 109 (trRow gd gl hv ov) * (X * (E * (Asn.vec 114 3 ov D.length (dbs D) * (aNs H * C))))) := by unfold aTr; ac_rfl
theorem tk_mid (B : Asn) : S2 * (B * (X * (E * (D2 * (aNs H * C))))) = D2 * (B * (S2 * (X * (E * (aNs H * C))))) := by ac_rfl
theorem tk_out (H' : List Sh) (D' : List Db) : X * ((aNs H') * (Asn.vec 114 3 ov D'.length (dbs D') * (Asn.blk g 109 (trRow gd gl hv ov) * (Asn.vec 98 8 hv H'.length (shs H') * C)))) = X * (aTr g gd gl hv ov H' D' * C) := by unfold aTr; ac_rfl
theorem tk_end (B : Asn) : D2 * (B * (S2 * (X * (E * (aNs H * C))))) = X * ((E * aNs H) * (D2 * (B * (S2 * C)))) := by ac_rfl
end
theorem shs_set (A B : List Sh) (x y : Sh) : (shs (A ++ (x :: B))).take (A.length * 8) ++ shC y ++ (shs (A ++ (x :: B))).drop (A.length * 8 + 8) = shs (A ++ (y :: B)) := by
  have h1 := shs_cut A B x
  have e : ∀ z : Sh, shs (A ++ (z :: B)) = shs A ++ (shC z ++ shs B) := fun z => by rw [shs_app, show z :: B = [z] ++ B from rfl, shs_app, show shs [z] = shC z from List.append_nil _]
  have hA := shs_len A
  rw [e, e, ← hA, List.take_left, List.drop_length_add_append, List.append_assoc]
  rfl
theorem own_setCells {w0 : World} {O0 : Nat → Prop} {C : Asn} (e : TypeId) (size b cap n : Nat) : ∀ (vs : List Value) (o : Nat) (xs : List Value) (w : World), Own w0 O0 w (Asn.vec e size (.slice (some ⟨b, 0, none⟩) n cap) n xs * C) → o + vs.length ≤ n * size →
    Own w0 O0 (w.setCells b o vs) (Asn.vec e size (.slice (some ⟨b, 0, none⟩) n cap) n (xs.take o ++ vs ++ xs.drop (o + vs.length)) * C)
  | [], o, xs, w, h, _ => by
    rw [List.append_nil, List.length_nil, Nat.add_zero, List.take_append_drop]
    exact h
  | v :: r, o, xs, w, h, hl => by
    simp only [List.length_cons] at hl
    have h1 := own_setCells e size b cap n r (o + 1) (xs.set o v) _ (h.set (Sets.l (sets_vec e size b cap n xs o (by omega) v))) (by omega)
    have hx : o + (r.length + 1) ≤ xs.length := by have := h.vec.len; omega
    rw [list_seg_step xs o v r hx] at h1
    exact h1
set_option maxRecDepth 100000 in
set_option maxHeartbeats 2000000 in
theorem take_any (n g gd gl : Nat) (hn : n ≤ 256) (hv ov : Value) (h : Nat → Option Sh) (hh : OkS h) (d : Nat → Option Db) (ho : OkD d) (p : Nat) (hp : p < n) (nd : Nod) (stamp : Nat) (hst : nd.stamp = (stamp : Int)) (pv : Value) (hl : nd.list.length ≤ 100000) (w0 w : World) (C : Asn)
    (hr : Row3 w pv nd.list) (hS : Own w0 No w (aTr g gd gl hv ov (lst h n) (lst d n) * C)) :
    Calls Tryz.prog 37 #[tPtr g, .agg (shV p nd pv)] w fun e w' => ∃ q : Value × Value × Value, e = .returned (.tuple #[]) ∧
      Own w0 No w' (aTr g gd gl q.1 q.2.1 (lst (put h p (some ⟨p, nd, q.2.2⟩)) n) (lst (owed d p stamp) n) * C) := by
  obtain ⟨A0, c0, rfl⟩ := hr.slice
  have hlh := lst_le h n
  have hld := lst_le d n
  have S := Lib.hid (hS.alloc (shV p nd (.slice A0 nd.list.length c0)) 98)
  have hb9 : Below w.heap.size w (w.alloc (.cells (shV p nd (.slice A0 nd.list.length c0)) 98)) := blA (Below.refl _ _) _
  have HA := Lib.hid (alone_any nd _ _ (hr.keep hb9) hl)
  unfold shV nodCells at *
  rw [hst] at S HA ⊢
  clear hS hr hb9
  have HST := Lib.hid hst
  clear hst
  unfold tPtr at *
  go_enter Tryz.func37, Tryz.ntmps37
  go_upto_region 1 with fail
  obtain ⟨g3, hgz⟩ : ∃ g, g = w.heap.size := ⟨_, rfl⟩
  rw [← hgz] at S ⊢
  clear hgz
  generalize w.alloc _ = w1 at *
  obtain ⟨⟨k0, k1, k2, k3, k4, k5, k6, k7⟩, f0, f1, f2, f3, f4, f5, f6, f7⟩ := eight8 (S.out.has (Has.l (has_blk _ _ _)))
  go_wp2_with fail
  refine HA.out.mono ?_
  rintro e w2 ⟨v', rfl, hX⟩
  obtain ⟨A', c', rfl⟩ := (Own.addEmp hX).vec.slice
  have S2 := Lib.hid (own_front (own_join S.out hX))
  clear hX HA S k0 k1 k2 k3 k4 k5 k6 k7 f0 f1 f2 f3 f4 f5 f6 f7
  obtain ⟨⟨k0, k1, k2, k3, k4, k5, k6, k7⟩, f0, f1, f2, f3, f4, f5, f6, f7⟩ := eight8 (S2.out.has (Has.l (has_blk _ _ _)))
  obtain ⟨zh, hzh⟩ : ∃ z, z = ofL nd.high := ⟨_, rfl⟩
  rw [← hzh] at S2 k5 ⊢
  have HZH := Lib.hid hzh
  clear hzh
  go_upto_region 2 with fail
  have S3 := Lib.hid (own_8 S2.out (.int .i64 nd.tree) (.int .i64 nd.level) (.int .i64 stamp) (.bool nd.has) (.string zh) (.int .i64 nd.right) (.slice A' nd.list.length c'))
  clear S2 k0 k1 k2 k3 k4 k5 k6 k7 f0 f1 f2 f3 f4 f5 f6 f7
  generalize World.setCell (World.setCell (World.setCell (World.setCell (World.setCell (World.setCell (World.setCell w2 _ _) _ _) _ _) _ _) _ _) _ _) _ _ = w3 at *
  obtain ⟨⟨k0, k1, k2, k3, k4, k5, k6, k7⟩, -⟩ := eight8 (S3.out.has (Has.l (has_blk _ _ _)))
  obtain ⟨-, -, c2, -, f2, -⟩ := tr_cells (S3.out.has (Has.r (Has.r (Has.l (Has.l (has_blk _ _ _))))))
  obtain ⟨AH, cH, rfl⟩ := S3.out.right.right.left.right.vec.slice
  have HP := Lib.hid (fun w hw => place_s hh hn p hp (.slice AH (lst h n).length cH) w hw)
  unfold num_sheet at HP
  generalize HXA : Asn.blk g3 98 #[.int .i64 p, .int .i64 nd.tree, .int .i64 nd.level, .int .i64 stamp, .bool nd.has, .string zh, .int .i64 nd.right, .slice A' nd.list.length c'] = XA at *
  have F : Hid (∀ W, Hid (Own w0 No W (XA * (Asn.vec 83 3 (.slice A' nd.list.length c') nd.list.length (cells3 nd.list) * (aTr g gd gl (.slice AH (lst h n).length cH) ov (lst h n) (lst d n) * C)))) → W.cell? ⟨g, 2, none⟩ = some (.slice AH (lst h n).length cH) ∧ W.cell? ⟨g3, 0, none⟩ = some (.int .i64 p)) :=
    Lib.hid fun W h => ⟨(tr_cells (h.out.has (Has.r (Has.r (Has.l (Has.l (has_blk _ _ _))))))).2.2.1, by subst HXA; exact (eight8 (h.out.has (Has.l (has_blk _ _ _)))).1.1⟩
  have SD := Lib.hid S3.out.drew
  have t0 := F.out _ SD
  go_region_held3 (fun W => (W.cell? ⟨g, 2, none⟩ = some (.slice AH (lst h n).length cH) ∧ W.cell? ⟨g3, 0, none⟩ = some (.int .i64 p)) ∧ Hid (Own w0 No W (XA * (Asn.vec 83 3 (.slice A' nd.list.length c') nd.list.length (cells3 nd.list) * (aTr g gd gl (.slice AH (lst h n).length cH) ov (lst h n) (lst d n) * C))))) (first | exact ⟨t0, SD⟩ | exact ⟨t4, S4⟩) (first | (go_at_call 39; have sx : Hid (Own w0 No _ (XA * (Asn.vec 83 3 (.slice A' nd.list.length c') nd.list.length (cells3 nd.list) * (aTr g gd gl (.slice AH (lst h n).length cH) ov (lst h n) (lst d n) * C)))) := (by assumption); refine (HP.out _ sx.out.right.right.left.right.vec).mono ?_; rintro e w4 ⟨rfl, hX⟩; have S4 := Lib.hid (sx.out.below hX); have t4 := F.out _ S4))
  subst HXA
  clear sx SD t0 F S3 HP hX k0 k1 k2 k3 k4 k5 k6 k7 c2 f2 t4
  have HM : Hid ((lst h p).length ≤ (lst h n).length) := Lib.hid (lst_mono h p n (by omega))
  have HSV : Hid (∀ x, x ∈ lst h n → ∃ A m c, x.v = .slice A m c) := Lib.hid fun x hx => by
    obtain ⟨A, c, e⟩ := (ns_at (show Own w0 No w4 (aNs (lst h n) * C) from by
      have := S4.out.right.right
      rw [tr_b] at this
      exact this.right.right.right) hx).slice
    exact ⟨A, _, c, e⟩
  have S5 := S4.out
  rw [tk_in] at S5
  have S6 := Lib.hid S5
  clear S4 S5
  obtain ⟨⟨k0, k1, k2, k3, k4, k5, k6, k7⟩, -⟩ := eight8 (S6.out.has (Has.r (Has.r (Has.l (has_blk _ _ _)))))
  obtain ⟨-, -, c2, -, f2, -⟩ := tr_cells (S6.out.has (Has.r (Has.l (has_blk _ _ _))))
  have HO := Lib.hid (fun hv w C h => owe_any n g gd gl hn hv ov d ho p stamp hp w0 w C h)
  unfold tPtr at HO
  cases hd : h p with
  | none =>
    have HE : Hid (shs (lst (put h p (some ⟨p, nd, .slice A' nd.list.length c'⟩)) n) = (shs (lst h n)).take ((lst h p).length * 8) ++ shC ⟨p, nd, .slice A' nd.list.length c'⟩ ++ (shs (lst h n)).drop ((lst h p).length * 8)) := Lib.hid (by
      rw [put_some hp, lst_none hp hd]
      exact (shs_ins _ _ _).symm)
    have HL : Hid ((lst (put h p (some ⟨p, nd, .slice A' nd.list.length c'⟩)) n).length = (lst h n).length + 1) := Lib.hid (by rw [put_some hp, lst_none hp hd, List.length_append, List.length_append, List.length_cons]; omega)
    have HE2 : Hid ([.int .i64 p, .int .i64 nd.tree, .int .i64 nd.level, .int .i64 stamp, .bool nd.has, .string zh, .int .i64 nd.right, .slice A' nd.list.length c'] = shC ⟨p, nd, .slice A' nd.list.length c'⟩) := Lib.hid (by unfold shC; rw [HST.out, HZH.out])
    have HN : Hid (∀ y, y ∈ lst (put h p (some ⟨p, nd, .slice A' nd.list.length c'⟩)) n → y = ⟨p, nd, .slice A' nd.list.length c'⟩ ∨ y ∈ lst h n) := Lib.hid (by
      rw [put_some hp, lst_none hp hd]
      intro y hy
      simp only [List.mem_append, List.mem_cons] at hy ⊢
      rcases hy with hy | hy | hy
      · exact Or.inr (Or.inl hy)
      · exact Or.inl hy
      · exact Or.inr (Or.inr hy))
    have S7 := Lib.hid (S6.out.alloc #[.int .i64 p, .int .i64 nd.tree, .int .i64 nd.level, .int .i64 stamp, .bool nd.has, .string zh, .int .i64 nd.right, .slice A' nd.list.length c'] 98).drew
    have HI := Lib.hid (ins_sheet (ys := [.int .i64 p, .int .i64 nd.tree, .int .i64 nd.level, .int .i64 stamp, .bool nd.has, .string zh, .int .i64 nd.right, .slice A' nd.list.length c']) (lst h p).length HM.out (by omega) rfl rfl (by intro u hu; simp at hu; rcases hu with rfl | rfl | rfl | rfl | rfl | rfl | rfl | rfl <;> rfl) (shs_one _ HSV.out) S7.out)
    go_upto_region 5 with fail
    have c2B := (tr_cells (S7.out.has (Has.r (Has.r (Has.l (has_blk _ _ _)))))).2.2.1
    go_region_with (go_at_call 47; refine HI.out.mono ?_; rintro e w5 ⟨v5, rfl, hX⟩; obtain ⟨A5, c5, rfl⟩ := hX.vec.slice; have S8 := Lib.hid hX; have f22 := (tr_cells (S8.out.has (Has.r (Has.l (has_blk _ _ _))))).2.2.2.2.1; have c22 := (tr_cells (S8.out.has (Has.r (Has.l (has_blk _ _ _))))).2.2.1)
    all_goals
      have S9 := Lib.hid (S8.out.set (Sets.r (Sets.l (sets_blk g 109 _ 2 (.slice A5 ((lst h n).length + 1) c5)))))
      clear S8 c22 f22 HI S7 S6 k0 k1 k2 k3 k4 k5 k6 k7 c2 f2 c2B
      generalize World.setCell w5 _ _ = w6 at *
      obtain ⟨⟨k0, k1, k2, k3, k4, k5, k6, k7⟩, -⟩ := eight8 (S9.out.has (Has.r (Has.r (Has.l (has_blk _ _ _)))))
      have SX := S9.out
      rw [tk_mid] at SX
      have S10 := Lib.hid SX
      clear S9 SX
      go_wp2_with fail
      refine (HO.out _ _ _ S10.out).mono ?_
      rintro e w7 ⟨ov7, rfl, hX⟩
      rw [tk_end] at hX
      have S11 := hX.imp (Imp.r (Imp.l (ns_add _ _ ⟨p, nd, .slice A' nd.list.length c'⟩ HN.out)))
      rw [HE2.out, ← HE.out, ← HL.out] at S11
      have S12 := S11.re (tk_out ..)
      clear k0 k1 k2 k3 k4 k5 k6 k7
      go_wp2_with fail
      go_returns
      exact ⟨(_, _, _), rfl, S12.right⟩
  | some y =>
    have hlt : (lst h p).length < (lst h n).length := lst_lt h p n hp y hd
    obtain ⟨b, rfl⟩ : ∃ b, AH = some ⟨b, 0, none⟩ := by
      rcases S6.out.vec.forms with ⟨-, hz⟩ | ⟨g, cap, he, -⟩
      · omega
      · cases he; exact ⟨_, rfl⟩
    have HE : Hid ((shs (lst h n)).take ((lst h p).length * 8) ++ [.int .i64 p, .int .i64 nd.tree, .int .i64 nd.level, .int .i64 stamp, .bool nd.has, .string zh, .int .i64 nd.right, .slice A' nd.list.length c'] ++ (shs (lst h n)).drop ((lst h p).length * 8 + 8) = shs (lst (put h p (some ⟨p, nd, .slice A' nd.list.length c'⟩)) n)) := Lib.hid (by
      have e := shs_set (lst h p) (rst h (p + 1) n) y ⟨p, nd, .slice A' nd.list.length c'⟩
      unfold shC at e
      dsimp only at e
      rw [HST.out] at e
      rw [put_some hp, lst_some hp hd, HZH.out]
      exact e)
    have HL : Hid ((lst (put h p (some ⟨p, nd, .slice A' nd.list.length c'⟩)) n).length = (lst h n).length) := Lib.hid (by rw [put_some hp, lst_some hp hd]; simp)
    have HE2 : Hid ([.int .i64 p, .int .i64 nd.tree, .int .i64 nd.level, .int .i64 stamp, .bool nd.has, .string zh, .int .i64 nd.right, .slice A' nd.list.length c'] = shC ⟨p, nd, .slice A' nd.list.length c'⟩) := Lib.hid (by unfold shC; rw [HST.out, HZH.out])
    have HN : Hid (∀ y, y ∈ lst (put h p (some ⟨p, nd, .slice A' nd.list.length c'⟩)) n → y = ⟨p, nd, .slice A' nd.list.length c'⟩ ∨ y ∈ lst h n) := Lib.hid (by
      rw [put_some hp, lst_some hp hd]
      intro z hy
      simp only [List.mem_append, List.mem_cons] at hy ⊢
      rcases hy with hy | hy | hy
      · exact Or.inr (Or.inl hy)
      · exact Or.inl hy
      · exact Or.inr (Or.inr (Or.inr hy)))
    have HK := Lib.hid hlt
    have hi : (lst h p).length * 8 + 7 < (lst h n).length * 8 := by omega
    have hthere : ∀ W : World, Own w0 No W (Asn.vec 98 8 (.slice (some ⟨b, 0, none⟩) (lst h n).length cH) (lst h n).length (shs (lst h n)) * (Asn.blk g 109 (trRow gd gl (.slice (some ⟨b, 0, none⟩) (lst h n).length cH) ov) * (Asn.blk g3 98 #[.int .i64 p, .int .i64 nd.tree, .int .i64 nd.level, .int .i64 stamp, .bool nd.has, .string zh, .int .i64 nd.right, .slice A' nd.list.length c'] * (Asn.vec 83 3 (.slice A' nd.list.length c') nd.list.length (cells3 nd.list) * (Asn.vec 114 3 ov (lst d n).length (dbs (lst d n)) * (aNs (lst h n) * C)))))) → W.there b ((lst h p).length * 8) 8 := fun W hW j hj => by
      have hx : (shs (lst h n))[(lst h p).length * 8 + j]? = some ((shs (lst h n))[(lst h p).length * 8 + j]'(by rw [shs_len]; omega)) := List.getElem?_eq_getElem _
      refine ⟨?_, hW.vec.free _⟩
      rw [hW.vec.cell hx]; rfl
    have HTH := Lib.hid (hthere _ S6.out.drew)
    clear hthere
    generalize hxs : shs (lst h n) = xs at *
    have HXS := Lib.hid hxs
    clear hxs
    generalize hm : (lst h n).length = m at *
    generalize hii : (lst h p).length = i at *
    have HMM := Lib.hid hm
    clear hm hii
    go_upto_region 4 with fail
    go_wp2_with fail
    refine wp_region_still_tail 7 (by kernel_rfl) (by kernel_rfl) ?_
    simp only [List.take_succ_cons, List.take_zero, List.drop_succ_cons, List.drop_zero]
    change wpStill _ _ w4.drew _ _ _
    repeat still_step
    refine wpStill_nil ?_
    change wpList _ _ _ _ _ w4.drew
    go_upto_region 6 with (with_reducible refine wpList_store_mid rfl 98 (.tmp 27) (.tmp 26) rfl b (i * 8) #[.int .i64 p, .int .i64 nd.tree, .int .i64 nd.level, .int .i64 stamp, .bool nd.has, .string zh, .int .i64 nd.right, .slice A' nd.list.length c'] ?c1 ?c2 ?c5 ?c3 ?c4 ?_)
    case c1 => rfl
    case c2 => rfl
    case c3 => exact size_sheet
    case c4 => exact all_oneCell_toArray (cs := [.int .i64 p, .int .i64 nd.tree, .int .i64 nd.level, .int .i64 stamp, .bool nd.has, .string zh, .int .i64 nd.right, .slice A' nd.list.length c']) (by intro u hu; simp at hu; rcases hu with rfl | rfl | rfl | rfl | rfl | rfl | rfl | rfl <;> rfl)
    case c5 => exact HTH.out
    have SY := own_setCells 98 8 b cH m [.int .i64 p, .int .i64 nd.tree, .int .i64 nd.level, .int .i64 stamp, .bool nd.has, .string zh, .int .i64 nd.right, .slice A' nd.list.length c'] (i * 8) xs _ S6.out.drew (by simp only [List.length_cons, List.length_nil]; omega)
    have S9 := Lib.hid SY
    clear SY S6 k0 k1 k2 k3 k4 k5 k6 k7 c2 f2 HTH
    generalize World.setCells w4.drew _ _ _ = w6 at *
    obtain ⟨⟨k0, k1, k2, k3, k4, k5, k6, k7⟩, -⟩ := eight8 (S9.out.has (Has.r (Has.r (Has.l (has_blk _ _ _)))))
    have SX := S9.out
    rw [tk_mid] at SX
    have S10 := Lib.hid SX
    clear S9 SX
    go_wp2_with fail
    refine (HO.out _ _ _ S10.out).mono ?_
    rintro e w7 ⟨ov7, rfl, hX⟩
    rw [tk_end] at hX
    have S11 := hX.imp (Imp.r (Imp.l (ns_add _ _ ⟨p, nd, .slice A' nd.list.length c'⟩ HN.out)))
    simp only [List.length_cons, List.length_nil] at S11
    rw [HE.out, ← HL.out] at S11
    have S12 := S11.re (tk_out ..)
    clear k0 k1 k2 k3 k4 k5 k6 k7
    go_wp2_with fail
    go_returns
    exact ⟨(_, _, _), rfl, S12.right⟩
end Go.Proofs.YtapdpdhibpblgaaGreatDoor.Tr
