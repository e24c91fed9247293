/- Shrink: the leaf of a key is taken out of the tree. -/
import Derived.Test.YteiiogaopgfpfaaBkAc
import Derived.Test.YteiiogaopgfpfaaBkR
import Derived.Test.YteiiogaopgfpfaaDyB
namespace Go.Proofs.Yteiiogaopgfpfaa.Bk
open Go.ChangeShapes Go.WideShapes Go.ChangeAt Go.RowKit Go.PlainAid Aid Nt Nd Tr
set_option linter.unusedVariables false
set_option linter.unusedSimpArgs false
set_option linter.unusedSectionVars false
/-- What Shrink answers, of a way whose last two are told. -/
def shr2 (S : Sf) (left : Nat) (key : By) (p : Int) (n : Nod) (pa : Int) (na : Nod) : Nat × List (Int × Nod) × Int :=
  if 0 < n.list.length then (13, [], 0) else
  if lastLe na.list key na.list.length < 1 then (13, [], 0) else
  match na.list[(lastLe na.list key na.list.length).toNat]? with
  | none => (13, [], 0)
  | some e => if (childL e.val : Int) ≠ p then (13, [], 0) else
    if (blw S left na (lastLe na.list key na.list.length - 1)).err = 0 then
      (if (blw S left na (lastLe na.list key na.list.length - 1)).nd.right ≠ p then (13, [], 0) else
        (0, [((blw S left na (lastLe na.list key na.list.length - 1)).pg, { (blw S left na (lastLe na.list key na.list.length - 1)).nd with has := n.has, high := n.high, right := n.right }), (pa, { na with list := na.list.eraseIdx (lastLe na.list key na.list.length).toNat })], p))
    else ((blw S left na (lastLe na.list key na.list.length - 1)).err, [], 0)
def shr1 (S : Sf) (left : Nat) (key : By) : List (Int × Nod) → Nat × List (Int × Nod) × Int
  | (p, n) :: (pa, na) :: _ => shr2 S left key p n pa na
  | _ => (13, [], 0)
def shrR (S : Sf) (root : Int) (key : By) : Nat × List (Int × Nod) × Int :=
  if (seek S 256 root 0 key).2.1 = 0 then shr1 S (seek S 256 root 0 key).1 key (seek S 256 root 0 key).2.2.reverse else ((seek S 256 root 0 key).2.1, [], 0)
theorem sk_left2 (S : Sf) (level : Int) (key : By) : ∀ (f : Nat) (v : Vi) (P : List (Int × Nod)), (sk S level key f v P).1 ≤ v.left
  | 0, v, P => Nat.le_refl _
  | f + 1, v, P => by
    unfold sk
    split
    · dsimp only
      have h1 := rgt_left S key v.left v.pg v.nd
      split
      · split
        · exact h1
        · split
          · exact h1
          · exact Nat.le_trans (sk_left2 S level key f _ _) (Nat.le_trans (blw_left ..) h1)
      · exact h1
    · exact Nat.le_refl _
theorem nil_snoc {α : Type} (l : List α) : l = [] ∨ ∃ a b, l = a ++ [b] := by
  rcases List.eq_nil_or_concat l with h | ⟨a, b, h⟩
  · exact Or.inl h
  · exact Or.inr ⟨a, b, by rw [h, List.concat_eq_append]⟩
section
variable (gs : Nat) (S : Sf) (V : Nat → Value)
set_option maxRecDepth 100000 in
set_option maxHeartbeats 16000000 in
theorem Shrink_any (hs : Sm S) (hv : LvOk S) (root : Int) (key : By) (w0 w : World) (C : Asn) (hS : Own w0 No w (aSf gs S V * C)) :
    Calls Try.prog 26 #[pgs gs, .int .i64 root, .string (ofL key)] w fun r w' => ∃ (v : Value) (L : List Sp), r = .returned (.tuple #[v, .int .i64 (shrR S root key).2.2, .int .i64 (shrR S root key).1]) ∧ plain L = (shrR S root key).2.1 ∧
      Own w0 No w' (Asn.vec 73 8 v L.length (spL L) * (aLs L * (aSf gs S V * C))) := by
  have S0 := Lib.hid ((hS.alloc #[pgs gs, .int .i64 0] 93).re (show _ = aG w.heap.size gs 256 * (aSf gs S V * C) by unfold aG; rw [show (256 : Int) - ((256 : Nat) : Int) = 0 from rfl]))
  have HSk := Lib.hid (fun gg W (h : Own w0 No W (aG gg gs 256 * (aSf gs S V * C))) => seek_any gs S V hs.small hv gg 256 (Nat.le_refl _) root 0 key w0 W C h)
  have HOK := Lib.hid (sk_ok S 0 key 300 (vis S 256 root) [])
  have hkp : ∀ x, x ∈ (seek S 256 root 0 key).2.2 → x.2.list.length ≤ 99999 := fun x hx => sk_P (S := S) (Pr := fun n => n.list.length ≤ 99999) (by decide) hs 0 key 300 (vis S 256 root) [] (vis_P (Pr := fun n => n.list.length ≤ 99999) (by decide) hs 256 root) (fun x hx => by cases hx) x hx
  have hkl : ∀ x, x ∈ (seek S 256 root 0 key).2.2 → Low63 x.2 := fun x hx => sk_P (S := S) (Pr := Low63) (by unfold Low63; decide) hv 0 key 300 (vis S 256 root) [] (vis_P (Pr := Low63) (by unfold Low63; decide) hv 256 root) (fun x hx => by cases hx) x hx
  have hleft : (seek S 256 root 0 key).1 ≤ 256 := Nat.le_trans (sk_left2 S 0 key 300 _ _) (vis_left S 256 root)
  have hsl257 := seek_len S root 0 key
  obtain ⟨r, hr⟩ : ∃ r, r = shrR S root key := ⟨_, rfl⟩
  rw [← hr]
  have HBl := Lib.hid (fun (gg left : Nat) (hl : left ≤ 256) (n : Nod) (v : Value) (i : Int) hi hn W D h => below_any gs S V hs.small gg left hl n v i hi hn w0 W D h)
  have HBP := Lib.hid (fun l n i => blw_P (S := S) (Pr := fun n => n.list.length ≤ 99999) (by decide) hs l n i)
  unfold shrR at hr
  unfold seek at HSk hleft hkp hkl hr hsl257
  generalize sk S 0 key 300 (vis S 256 root) [] = rr at *
  obtain ⟨r1, err, path⟩ := rr
  dsimp only at *
  have HR := Lib.hid hr
  have HKP := Lib.hid hkp
  have HKL := Lib.hid hkl
  have FIN : Hid (∀ X W, Own w0 No W (X * (aSf gs S V * C)) → Own w0 No W (Asn.vec 73 8 (.slice none 0 0) ([] : List Sp).length (spL []) * (aLs [] * (aSf gs S V * C)))) := Lib.hid fun X W h => by
    have h1 := h.right.nilVec 73 8
    rw [show aLs [] = Asn.emp from rfl, emp_mul]
    exact h1
  clear hr hkp hkl hS
  unfold pgs sPtr spotC at *
  go_enter Try.func26, Try.ntmps26
  go_upto_region 2 with fail
  obtain ⟨g9, hgz⟩ : ∃ g, g = w.heap.size := ⟨_, rfl⟩
  rw [← hgz] at S0 ⊢
  clear hgz
  generalize World.alloc _ _ = w1 at *
  go_wp2_with fail
  refine (HSk.out _ _ S0.out).mono ?_
  rintro e1 w2 ⟨pv, L, rfl, hpl, hX⟩
  clear HSk S0
  by_cases he : err = 0
  case neg =>
    have hr := HR.out
    rw [if_neg he] at hr
    subst hr
    have he2 : ((err : Nat) : Int) ≠ 0 := by simpa using he
    have S1 := Lib.hid hX
    clear hX HR
    go_wp2_with fail
    go_returns
    exact ⟨_, rfl, [], rfl, FIN.out _ _ (S1.out.re (show _ = (Asn.vec 98 8 pv L.length (spL L) * (aLs L * aG g9 gs r1)) * (aSf gs S V * C) by ac_rfl))⟩
  subst he
  obtain ⟨Q, p, n, hq⟩ := HOK.out rfl
  subst hq
  have hr := HR.out
  rw [if_pos rfl, List.reverse_append] at hr
  obtain ⟨L', x, rfl, rfl, rfl⟩ := plain_split hpl
  have hQ : plain L' = Q := by
    have := hpl
    rw [plain_snoc] at this
    exact List.append_cancel_right this
  subst hQ
  have hr' : r = shr1 S r1 key ((x.pg, x.nd) :: (plain L').reverse) := hr
  have HRR := Lib.hid hr'
  have hxl : x.nd.list.length ≤ 99999 := HKP.out (x.pg, x.nd) (by simp)
  have hLn : L'.length ≤ 256 := by have := hsl257; simp [plain] at this; omega
  clear hr hr' HR HOK hpl hsl257
  rw [aLs_snoc] at hX
  obtain ⟨A, c, hxv⟩ := (show Own w0 No w2 (Asn.vec 44 3 x.v x.nd.list.length (cells3 x.nd.list) * _) from hX.re (show _ = aEnts x.nd x.v * (Asn.vec 98 8 pv (L' ++ [x]).length (spL (L' ++ [x])) * (aLs L' * (aG g9 gs r1 * (aSf gs S V * C)))) by ac_rfl)).vec.slice
  rw [hxv] at hX
  have hN : (L' ++ [x]).length = L'.length + 1 := by simp
  have hat := fun j (hj : j < 8) => spL_at (L' ++ [x]) L'.length j x (by simp) hj
  rw [hN] at hX
  obtain ⟨ba, cb, rfl⟩ : ∃ b cb, pv = .slice (some ⟨b, 0, none⟩) (L'.length + 1) cb := by
    rcases hX.vec.forms with ⟨-, hz⟩ | ⟨g, cap, h, -, h1, h2⟩
    · omega
    · exact ⟨_, _, h⟩
  have hc := fun j (hj : j < 8) u hu => hX.vec.cell (j := L'.length * 8 + j) (u := u) ((hat j hj).trans hu)
  unfold spotC at hc
  rw [hxv] at hc
  have c0 := hc 0 (by decide) _ rfl
  have c1 := hc 1 (by decide) _ rfl
  have c2 := hc 2 (by decide) _ rfl
  have c3 := hc 3 (by decide) _ rfl
  have c4 := hc 4 (by decide) _ rfl
  have c5 := hc 5 (by decide) _ rfl
  have c6 := hc 6 (by decide) _ rfl
  have c7 := hc 7 (by decide) _ rfl
  rw [Nat.add_zero] at c0
  have S2 := Lib.hid (hX.alloc #[.int .i64 x.pg, .int .i64 x.nd.tree, .int .i64 x.nd.level, .int .i64 x.nd.stamp, .bool x.nd.has, .string (ofL x.nd.high), .int .i64 x.nd.right, .slice A x.nd.list.length c] 98)
  clear hX hat hc hN
  rcases nil_snoc L' with rfl | ⟨L2, y, rfl⟩
  · have hr : r = (13, [], 0) := HRR.out
    subst hr
    simp only [List.length_nil, Nat.zero_mul, Nat.zero_add] at c0 c1 c2 c3 c4 c5 c6 c7
    go_upto_region 6 with fail
    generalize World.alloc _ _ = w3 at *
    clear c0 c1 c2 c3 c4 c5 c6 c7
    go_wp2_with fail
    go_returns
    exact ⟨_, rfl, [], rfl, FIN.out _ _ (S2.out.re (show _ = (Asn.blk w2.heap.size 98 #[.int .i64 x.pg, .int .i64 x.nd.tree, .int .i64 x.nd.level, .int .i64 x.nd.stamp, .bool x.nd.has, .string (ofL x.nd.high), .int .i64 x.nd.right, .slice A x.nd.list.length c] * (Asn.vec 98 8 (.slice (some ⟨ba, 0, none⟩) (([] : List Sp).length + 1) cb) (([] : List Sp).length + 1) (spL ([] ++ [x])) * (aEnts x.nd (.slice A x.nd.list.length c) * (aLs [] * aG g9 gs r1)))) * (aSf gs S V * C) by ac_rfl))⟩
  have hr := HRR.out
  rw [plain_snoc, List.reverse_append] at hr
  have hr' : r = shr2 S r1 key x.pg x.nd y.pg y.nd := hr
  have HR2 := Lib.hid hr'
  have hyl : y.nd.list.length ≤ 99999 := HKP.out (y.pg, y.nd) (by simp [plain])
  have hy63 : Low63 y.nd := HKL.out (y.pg, y.nd) (by simp [plain])
  clear hr hr' HRR HKP HKL
  rw [aLs_snoc] at S2
  have hN2 : (L2 ++ [y]).length = L2.length + 1 := by simp
  rw [hN2] at S2 hLn ⊢
  rw [hN2] at c0 c1 c2 c3 c4 c5 c6 c7
  clear hN2
  obtain ⟨A2, c2', hyv⟩ := (show Own w0 No _ (Asn.vec 44 3 y.v y.nd.list.length (cells3 y.nd.list) * _) from S2.out.re (show _ = aEnts y.nd y.v * (Asn.blk w2.heap.size 98 #[.int .i64 x.pg, .int .i64 x.nd.tree, .int .i64 x.nd.level, .int .i64 x.nd.stamp, .bool x.nd.has, .string (ofL x.nd.high), .int .i64 x.nd.right, .slice A x.nd.list.length c] * (Asn.vec 98 8 (.slice (some ⟨ba, 0, none⟩) (L2.length + 1 + 1) cb) (L2.length + 1 + 1) (spL (L2 ++ [y] ++ [x])) * (aEnts x.nd (.slice A x.nd.list.length c) * (aLs L2 * (aG g9 gs r1 * (aSf gs S V * C)))))) by ac_rfl)).vec.slice
  rw [hyv] at S2
  have hat := fun j (hj : j < 8) => spL_at (L2 ++ [y] ++ [x]) L2.length j y (by simp) hj
  unfold spotC at hat
  rw [hyv] at hat
  have S3 := Lib.hid (S2.out.re (show _ = aLs L2 * (Asn.blk w2.heap.size 98 #[.int .i64 x.pg, .int .i64 x.nd.tree, .int .i64 x.nd.level, .int .i64 x.nd.stamp, .bool x.nd.has, .string (ofL x.nd.high), .int .i64 x.nd.right, .slice A x.nd.list.length c] * (Asn.vec 98 8 (.slice (some ⟨ba, 0, none⟩) (L2.length + 1 + 1) cb) (L2.length + 1 + 1) (spL (L2 ++ [y] ++ [x])) * (aEnts x.nd (.slice A x.nd.list.length c) * (aEnts y.nd (.slice A2 y.nd.list.length c2') * (aG g9 gs r1 * (aSf gs S V * C)))))) by ac_rfl)).right
  clear S2 hyv
  generalize spL (L2 ++ [y] ++ [x]) = SL at *
  generalize L2.length = M at *
  go_upto_region 6 with fail
  obtain ⟨g12, hgz⟩ : ∃ g, g = w2.heap.size := ⟨_, rfl⟩
  rw [← hgz] at S3 ⊢
  clear hgz c0 c1 c2 c3 c4 c5 c6 c7
  generalize World.alloc _ _ = w3 at *
  obtain ⟨k0, k1, k2, k3, k4, k5, k6, k7⟩ := eight_of (S3.out.has (Has.l (has_blk _ _ _)))
  by_cases hxz : 0 < x.nd.list.length
  · have hr := HR2.out
    rw [shr2, if_pos hxz] at hr
    subst hr
    go_wp2_with fail
    go_returns
    exact ⟨_, rfl, [], rfl, FIN.out _ _ (S3.out.re (show _ = (Asn.blk g12 98 #[.int .i64 x.pg, .int .i64 x.nd.tree, .int .i64 x.nd.level, .int .i64 x.nd.stamp, .bool x.nd.has, .string (ofL x.nd.high), .int .i64 x.nd.right, .slice A x.nd.list.length c] * (Asn.vec 98 8 (.slice (some ⟨ba, 0, none⟩) (M + 1 + 1) cb) (M + 1 + 1) SL * (aEnts x.nd (.slice A x.nd.list.length c) * (aEnts y.nd (.slice A2 y.nd.list.length c2') * aG g9 gs r1)))) * (aSf gs S V * C) by ac_rfl))⟩
  have hr := HR2.out
  rw [shr2, if_neg hxz] at hr
  have HR3 := Lib.hid hr
  clear hr HR2
  have hv3 := S3.out.right.vec
  have hc := fun j (hj : j < 8) u hu => hv3.cell (j := M * 8 + j) (u := u) ((hat j hj).trans hu)
  have d0 := hc 0 (by decide) _ rfl
  have d1 := hc 1 (by decide) _ rfl
  have d2 := hc 2 (by decide) _ rfl
  have d3 := hc 3 (by decide) _ rfl
  have d4 := hc 4 (by decide) _ rfl
  have d5 := hc 5 (by decide) _ rfl
  have d6 := hc 6 (by decide) _ rfl
  have d7 := hc 7 (by decide) _ rfl
  rw [Nat.add_zero] at d0
  have S4 := Lib.hid ((S3.out.re (show _ = Asn.vec 98 8 (.slice (some ⟨ba, 0, none⟩) (M + 1 + 1) cb) (M + 1 + 1) SL * (Asn.blk g12 98 #[.int .i64 x.pg, .int .i64 x.nd.tree, .int .i64 x.nd.level, .int .i64 x.nd.stamp, .bool x.nd.has, .string (ofL x.nd.high), .int .i64 x.nd.right, .slice A x.nd.list.length c] * (aEnts x.nd (.slice A x.nd.list.length c) * (aEnts y.nd (.slice A2 y.nd.list.length c2') * (aG g9 gs r1 * (aSf gs S V * C))))) by ac_rfl)).right.alloc #[.int .i64 y.pg, .int .i64 y.nd.tree, .int .i64 y.nd.level, .int .i64 y.nd.stamp, .bool y.nd.has, .string (ofL y.nd.high), .int .i64 y.nd.right, .slice A2 y.nd.list.length c2'] 98)
  clear hc hv3 hat S3
  go_upto_region 9 with fail
  obtain ⟨g13, hgz⟩ : ∃ g, g = w3.heap.size := ⟨_, rfl⟩
  rw [← hgz] at S4 ⊢
  clear hgz d0 d1 d2 d3 d4 d5 d6 d7 k0 k1 k2 k3 k4 k5 k6 k7
  generalize World.alloc _ _ = w4 at *
  obtain ⟨k0, k1, k2, k3, k4, k5, k6, k7⟩ := eight_of (S4.out.has (Has.l (has_blk _ _ _)))
  have HFd := Lib.hid (Find_any y.nd key (.agg (nodCells y.nd (.slice A2 y.nd.list.length c2'))) w4 (ents_at S4.out.right.right.right.left))
  unfold nodCells at HFd
  have hqlt : lastLe y.nd.list key y.nd.list.length < (y.nd.list.length : Int) := lastLe_lt _ _ _
  generalize lastLe y.nd.list key y.nd.list.length = qi at *
  go_wp2_with fail
  refine HFd.out.mono ?_
  rintro e w5 ⟨rfl, hX⟩
  have S5 := Lib.hid (S4.out.below hX)
  clear hX S4 HFd k0 k1 k2 k3 k4 k5 k6 k7
  have FIN2 : Hid (∀ W, Own w0 No W (Asn.blk g13 98 #[.int .i64 y.pg, .int .i64 y.nd.tree, .int .i64 y.nd.level, .int .i64 y.nd.stamp, .bool y.nd.has, .string (ofL y.nd.high), .int .i64 y.nd.right, .slice A2 y.nd.list.length c2'] * (Asn.blk g12 98 #[.int .i64 x.pg, .int .i64 x.nd.tree, .int .i64 x.nd.level, .int .i64 x.nd.stamp, .bool x.nd.has, .string (ofL x.nd.high), .int .i64 x.nd.right, .slice A x.nd.list.length c] * (aEnts x.nd (.slice A x.nd.list.length c) * (aEnts y.nd (.slice A2 y.nd.list.length c2') * (aG g9 gs r1 * (aSf gs S V * C)))))) → Own w0 No W (Asn.vec 73 8 (.slice none 0 0) ([] : List Sp).length (spL []) * (aLs [] * (aSf gs S V * C)))) := Lib.hid fun W h => FIN.out _ _ (h.re (show _ = (Asn.blk g13 98 #[.int .i64 y.pg, .int .i64 y.nd.tree, .int .i64 y.nd.level, .int .i64 y.nd.stamp, .bool y.nd.has, .string (ofL y.nd.high), .int .i64 y.nd.right, .slice A2 y.nd.list.length c2'] * (Asn.blk g12 98 #[.int .i64 x.pg, .int .i64 x.nd.tree, .int .i64 x.nd.level, .int .i64 x.nd.stamp, .bool x.nd.has, .string (ofL x.nd.high), .int .i64 x.nd.right, .slice A x.nd.list.length c] * (aEnts x.nd (.slice A x.nd.list.length c) * (aEnts y.nd (.slice A2 y.nd.list.length c2') * aG g9 gs r1)))) * (aSf gs S V * C) by ac_rfl))
  by_cases hq1 : qi < 1
  · have hr := HR3.out
    rw [if_pos hq1] at hr
    subst hr
    go_upto_region 10 with fail
    go_quiet (fail)
    have S6 := Lib.hid (S5.out.drewN nq)
    clear S5
    generalize w5.drewN nq = w6 at *
    go_wp2_with fail
    go_returns
    exact ⟨_, rfl, [], rfl, FIN2.out _ S6.out⟩
  obtain ⟨q, rfl⟩ : ∃ q : Nat, qi = (q : Int) := ⟨qi.toNat, by omega⟩
  have hr := HR3.out
  rw [if_neg hq1] at hr
  have hql : q < y.nd.list.length := by omega
  obtain ⟨e, hye⟩ : ∃ e, y.nd.list[q]? = some e := ⟨_, List.getElem?_eq_getElem hql⟩
  rw [show ((q : Nat) : Int).toNat = q from rfl, hye] at hr
  have hr' := hr
  dsimp only at hr'
  have HR4 := Lib.hid hr'
  clear hr hr' HR3
  have hq2 : decide ((q : Int) < 1) = false := decide_eq_false hq1
  have hq3 : ¬ ((q : Int) < 1) := hq1
  have hvy := fun W (h : Own w0 No W (Asn.blk g13 98 #[.int .i64 y.pg, .int .i64 y.nd.tree, .int .i64 y.nd.level, .int .i64 y.nd.stamp, .bool y.nd.has, .string (ofL y.nd.high), .int .i64 y.nd.right, .slice A2 y.nd.list.length c2'] * (Asn.blk g12 98 #[.int .i64 x.pg, .int .i64 x.nd.tree, .int .i64 x.nd.level, .int .i64 x.nd.stamp, .bool x.nd.has, .string (ofL x.nd.high), .int .i64 x.nd.right, .slice A x.nd.list.length c] * (aEnts x.nd (.slice A x.nd.list.length c) * (aEnts y.nd (.slice A2 y.nd.list.length c2') * (aG g9 gs r1 * (aSf gs S V * C))))))) => (show Own w0 No W (Asn.vec 44 3 (.slice A2 y.nd.list.length c2') y.nd.list.length (cells3 y.nd.list) * _) from h.right.right.right).vec
  obtain ⟨b2, rfl⟩ : ∃ b, A2 = some ⟨b, 0, none⟩ := by
    rcases (hvy _ S5.out).forms with ⟨-, hz⟩ | ⟨g, cap, h, -, h1, h2⟩
    · omega
    · cases h; exact ⟨_, rfl⟩
  have F := Lib.hid (fun W h => (⟨(eight_of (h.has (Has.l (has_blk g13 _ _)))).2.2.2.2.2.2.2, (hvy W h).cell (j := q * 3 + 0) (cells3_at y.nd.list q 0 e hye (by decide)), (hvy W h).cell (cells3_at y.nd.list q 1 e hye (by decide)), (hvy W h).cell (cells3_at y.nd.list q 2 e hye (by decide)), (eight_of (h.has (Has.r (Has.l (has_blk g12 _ _))))).1⟩ : W.cell? ⟨g13, 7, none⟩ = some (.slice (some ⟨b2, 0, none⟩) y.nd.list.length c2') ∧ W.cell? ⟨b2, q * 3, none⟩ = some (.string (ofL e.key)) ∧ W.cell? ⟨b2, q * 3 + 1, none⟩ = some (.string (ofL e.val)) ∧ W.cell? ⟨b2, q * 3 + 2, none⟩ = some (.bool e.ghost) ∧ W.cell? ⟨g12, 0, none⟩ = some (.int .i64 x.pg)))
  have HCh := Lib.hid (fun W => Child_any e W)
  unfold entCells at HCh
  have S6 := Lib.hid S5.out.drew
  have tA := F.out _ S6.out
  clear S5 hvy
  go_upto_region 10 with fail
  go_region_held3 (fun W : World => W.cell? ⟨g13, 7, none⟩ = some (.slice (some ⟨b2, 0, none⟩) y.nd.list.length c2') ∧ W.cell? ⟨b2, q * 3, none⟩ = some (.string (ofL e.key)) ∧ W.cell? ⟨b2, q * 3 + 1, none⟩ = some (.string (ofL e.val)) ∧ W.cell? ⟨b2, q * 3 + 2, none⟩ = some (.bool e.ghost) ∧ W.cell? ⟨g12, 0, none⟩ = some (.int .i64 x.pg)) (first | exact tA | exact tB) (first | (go_at_call 19; refine (HCh.out _).mono ?_; rintro r w6 ⟨rfl, hX⟩; have S7 := Lib.hid (S6.out.below hX); have tB := F.out _ S7.out))
  clear tA tB F HCh S6
  cases hcp : (((childL e.val : Nat) : Int) != x.pg)
  case true =>
    have hr := HR4.out
    rw [if_pos (by simpa using hcp)] at hr
    subst hr
    go_wp2_with fail
    go_returns
    exact ⟨_, rfl, [], rfl, FIN2.out _ S7.out⟩
  have hr := HR4.out
  rw [if_neg (by simpa using hcp)] at hr
  have HR5 := Lib.hid hr
  clear hr HR4 FIN2
  obtain ⟨k0, k1, k2, k3, k4, k5, k6, k7⟩ := eight_of (S7.out.has (Has.l (has_blk g13 _ _)))
  have HBe := Lib.hid (HBl.out g9 r1 hleft y.nd (.slice (some ⟨b2, 0, none⟩) y.nd.list.length c2') ((q : Int) - 1) (by omega) hy63 _ _ (S7.out.re (show _ = aEnts y.nd (.slice (some ⟨b2, 0, none⟩) y.nd.list.length c2') * (aG g9 gs r1 * (aSf gs S V * (Asn.blk g13 98 #[.int .i64 y.pg, .int .i64 y.nd.tree, .int .i64 y.nd.level, .int .i64 y.nd.stamp, .bool y.nd.has, .string (ofL y.nd.high), .int .i64 y.nd.right, .slice (some ⟨b2, 0, none⟩) y.nd.list.length c2'] * (Asn.blk g12 98 #[.int .i64 x.pg, .int .i64 x.nd.tree, .int .i64 x.nd.level, .int .i64 x.nd.stamp, .bool x.nd.has, .string (ofL x.nd.high), .int .i64 x.nd.right, .slice A x.nd.list.length c] * (aEnts x.nd (.slice A x.nd.list.length c) * C))))) by ac_rfl)))
  have hsl : (blw S r1 y.nd ((q : Int) - 1)).nd.list.length ≤ 99999 := HBP.out _ _ _
  unfold nodCells at HBe
  generalize blw S r1 y.nd ((q : Int) - 1) = s at *
  go_wp2_with fail
  refine HBe.out.mono ?_
  rintro e1 w8 ⟨v3, rfl, hX⟩
  obtain ⟨A3, c3, rfl⟩ := (show Own w0 No w8 (Asn.vec 44 3 v3 s.nd.list.length (cells3 s.nd.list) * _) from hX).vec.slice
  have S8 := Lib.hid ((hX.alloc #[.int .i64 s.pg, .int .i64 s.nd.tree, .int .i64 s.nd.level, .int .i64 s.nd.stamp, .bool s.nd.has, .string (ofL s.nd.high), .int .i64 s.nd.right, .slice A3 s.nd.list.length c3] 98).re (show _ = Asn.blk w8.heap.size 98 #[.int .i64 s.pg, .int .i64 s.nd.tree, .int .i64 s.nd.level, .int .i64 s.nd.stamp, .bool s.nd.has, .string (ofL s.nd.high), .int .i64 s.nd.right, .slice A3 s.nd.list.length c3] * (Asn.blk g13 98 #[.int .i64 y.pg, .int .i64 y.nd.tree, .int .i64 y.nd.level, .int .i64 y.nd.stamp, .bool y.nd.has, .string (ofL y.nd.high), .int .i64 y.nd.right, .slice (some ⟨b2, 0, none⟩) y.nd.list.length c2'] * (Asn.blk g12 98 #[.int .i64 x.pg, .int .i64 x.nd.tree, .int .i64 x.nd.level, .int .i64 x.nd.stamp, .bool x.nd.has, .string (ofL x.nd.high), .int .i64 x.nd.right, .slice A x.nd.list.length c] * (aEnts x.nd (.slice A x.nd.list.length c) * (aEnts y.nd (.slice (some ⟨b2, 0, none⟩) y.nd.list.length c2') * (aEnts s.nd (.slice A3 s.nd.list.length c3) * (aG g9 gs s.left * (aSf gs S V * C))))))) by ac_rfl))
  clear hX HBe S7 k0 k1 k2 k3 k4 k5 k6 k7 HBl HBP
  go_upto_region 13 with fail
  obtain ⟨g15, hgz⟩ : ∃ g, g = w8.heap.size := ⟨_, rfl⟩
  rw [← hgz] at S8 ⊢
  clear hgz
  generalize World.alloc _ _ = w9 at *
  have FIN3 : Hid (∀ W, Own w0 No W (Asn.blk g15 98 #[.int .i64 s.pg, .int .i64 s.nd.tree, .int .i64 s.nd.level, .int .i64 s.nd.stamp, .bool s.nd.has, .string (ofL s.nd.high), .int .i64 s.nd.right, .slice A3 s.nd.list.length c3] * (Asn.blk g13 98 #[.int .i64 y.pg, .int .i64 y.nd.tree, .int .i64 y.nd.level, .int .i64 y.nd.stamp, .bool y.nd.has, .string (ofL y.nd.high), .int .i64 y.nd.right, .slice (some ⟨b2, 0, none⟩) y.nd.list.length c2'] * (Asn.blk g12 98 #[.int .i64 x.pg, .int .i64 x.nd.tree, .int .i64 x.nd.level, .int .i64 x.nd.stamp, .bool x.nd.has, .string (ofL x.nd.high), .int .i64 x.nd.right, .slice A x.nd.list.length c] * (aEnts x.nd (.slice A x.nd.list.length c) * (aEnts y.nd (.slice (some ⟨b2, 0, none⟩) y.nd.list.length c2') * (aEnts s.nd (.slice A3 s.nd.list.length c3) * (aG g9 gs s.left * (aSf gs S V * C)))))))) → Own w0 No W (Asn.vec 73 8 (.slice none 0 0) ([] : List Sp).length (spL []) * (aLs [] * (aSf gs S V * C)))) := Lib.hid fun W h => FIN.out _ _ (h.re (show _ = (Asn.blk g15 98 #[.int .i64 s.pg, .int .i64 s.nd.tree, .int .i64 s.nd.level, .int .i64 s.nd.stamp, .bool s.nd.has, .string (ofL s.nd.high), .int .i64 s.nd.right, .slice A3 s.nd.list.length c3] * (Asn.blk g13 98 #[.int .i64 y.pg, .int .i64 y.nd.tree, .int .i64 y.nd.level, .int .i64 y.nd.stamp, .bool y.nd.has, .string (ofL y.nd.high), .int .i64 y.nd.right, .slice (some ⟨b2, 0, none⟩) y.nd.list.length c2'] * (Asn.blk g12 98 #[.int .i64 x.pg, .int .i64 x.nd.tree, .int .i64 x.nd.level, .int .i64 x.nd.stamp, .bool x.nd.has, .string (ofL x.nd.high), .int .i64 x.nd.right, .slice A x.nd.list.length c] * (aEnts x.nd (.slice A x.nd.list.length c) * (aEnts y.nd (.slice (some ⟨b2, 0, none⟩) y.nd.list.length c2') * (aEnts s.nd (.slice A3 s.nd.list.length c3) * aG g9 gs s.left)))))) * (aSf gs S V * C) by ac_rfl))
  by_cases he : s.err = 0
  case neg =>
    have hr := HR5.out
    rw [if_neg he] at hr
    subst hr
    have he2 : ((s.err : Nat) : Int) ≠ 0 := by simpa using he
    go_wp2_with fail
    go_returns
    exact ⟨_, rfl, [], rfl, FIN3.out _ S8.out⟩
  have he0 : ((s.err : Nat) : Int) = 0 := by rw [he]; rfl
  rw [he0]
  have hr := HR5.out
  rw [if_pos he] at hr
  have HR6 := Lib.hid hr
  clear hr HR5 he he0
  obtain ⟨m0, m1, m2, m3, m4, m5, m6, m7⟩ := eight_of (S8.out.has (Has.l (has_blk g15 _ _)))
  obtain ⟨k0, k1, k2, k3, k4, k5, k6, k7⟩ := eight_of (S8.out.has (Has.r (Has.l (has_blk g13 _ _))))
  obtain ⟨l0, l1, l2, l3, l4, l5, l6, l7⟩ := eight_of (S8.out.has (Has.r (Has.r (Has.l (has_blk g12 _ _)))))
  cases hrt : (s.nd.right != x.pg)
  case true =>
    have hr := HR6.out
    rw [if_pos (by simpa using hrt)] at hr
    subst hr
    go_wp2_with fail
    go_returns
    exact ⟨_, rfl, [], rfl, FIN3.out _ S8.out⟩
  have hr := HR6.out
  rw [if_neg (by simpa using hrt)] at hr
  have HR7 := Lib.hid hr
  clear hr HR6 FIN3
  go_upto_region 17 with fail
  clear k0 k1 k2 k3 k4 k5 k6 k7 l0 l1 l2 l3 l4 l5 l6 l7 m0 m1 m2 m3 m4 m5 m6 m7
  have S9 := Lib.hid S8.out.drew
  clear S8
  have F := Lib.hid (fun W (h : Own w0 No W (Asn.blk g15 98 #[.int .i64 s.pg, .int .i64 s.nd.tree, .int .i64 s.nd.level, .int .i64 s.nd.stamp, .bool s.nd.has, .string (ofL s.nd.high), .int .i64 s.nd.right, .slice A3 s.nd.list.length c3] * (Asn.blk g13 98 #[.int .i64 y.pg, .int .i64 y.nd.tree, .int .i64 y.nd.level, .int .i64 y.nd.stamp, .bool y.nd.has, .string (ofL y.nd.high), .int .i64 y.nd.right, .slice (some ⟨b2, 0, none⟩) y.nd.list.length c2'] * (Asn.blk g12 98 #[.int .i64 x.pg, .int .i64 x.nd.tree, .int .i64 x.nd.level, .int .i64 x.nd.stamp, .bool x.nd.has, .string (ofL x.nd.high), .int .i64 x.nd.right, .slice A x.nd.list.length c] * (aEnts x.nd (.slice A x.nd.list.length c) * (aEnts y.nd (.slice (some ⟨b2, 0, none⟩) y.nd.list.length c2') * (aEnts s.nd (.slice A3 s.nd.list.length c3) * (aG g9 gs s.left * (aSf gs S V * C))))))))) => (⟨eight_of (h.has (Has.l (has_blk g15 _ _))), eight_of (h.has (Has.r (Has.l (has_blk g13 _ _)))), eight_of (h.has (Has.r (Has.r (Has.l (has_blk g12 _ _)))))⟩ : (W.cell? ⟨g15, 0, none⟩ = some (.int .i64 s.pg) ∧ W.cell? ⟨g15, 1, none⟩ = some (.int .i64 s.nd.tree) ∧ W.cell? ⟨g15, 2, none⟩ = some (.int .i64 s.nd.level) ∧ W.cell? ⟨g15, 3, none⟩ = some (.int .i64 s.nd.stamp) ∧ W.cell? ⟨g15, 4, none⟩ = some (.bool s.nd.has) ∧ W.cell? ⟨g15, 5, none⟩ = some (.string (ofL s.nd.high)) ∧ W.cell? ⟨g15, 6, none⟩ = some (.int .i64 s.nd.right) ∧ W.cell? ⟨g15, 7, none⟩ = some (.slice A3 s.nd.list.length c3)) ∧ (W.cell? ⟨g13, 0, none⟩ = some (.int .i64 y.pg) ∧ W.cell? ⟨g13, 1, none⟩ = some (.int .i64 y.nd.tree) ∧ W.cell? ⟨g13, 2, none⟩ = some (.int .i64 y.nd.level) ∧ W.cell? ⟨g13, 3, none⟩ = some (.int .i64 y.nd.stamp) ∧ W.cell? ⟨g13, 4, none⟩ = some (.bool y.nd.has) ∧ W.cell? ⟨g13, 5, none⟩ = some (.string (ofL y.nd.high)) ∧ W.cell? ⟨g13, 6, none⟩ = some (.int .i64 y.nd.right) ∧ W.cell? ⟨g13, 7, none⟩ = some (.slice (some ⟨b2, 0, none⟩) y.nd.list.length c2')) ∧ (W.cell? ⟨g12, 0, none⟩ = some (.int .i64 x.pg) ∧ W.cell? ⟨g12, 1, none⟩ = some (.int .i64 x.nd.tree) ∧ W.cell? ⟨g12, 2, none⟩ = some (.int .i64 x.nd.level) ∧ W.cell? ⟨g12, 3, none⟩ = some (.int .i64 x.nd.stamp) ∧ W.cell? ⟨g12, 4, none⟩ = some (.bool x.nd.has) ∧ W.cell? ⟨g12, 5, none⟩ = some (.string (ofL x.nd.high)) ∧ W.cell? ⟨g12, 6, none⟩ = some (.int .i64 x.nd.right) ∧ W.cell? ⟨g12, 7, none⟩ = some (.slice A x.nd.list.length c))))
  have HJo := Lib.hid (fun W (h : Own w0 No W (Asn.blk g15 98 #[.int .i64 s.pg, .int .i64 s.nd.tree, .int .i64 s.nd.level, .int .i64 s.nd.stamp, .bool s.nd.has, .string (ofL s.nd.high), .int .i64 s.nd.right, .slice A3 s.nd.list.length c3] * (Asn.blk g13 98 #[.int .i64 y.pg, .int .i64 y.nd.tree, .int .i64 y.nd.level, .int .i64 y.nd.stamp, .bool y.nd.has, .string (ofL y.nd.high), .int .i64 y.nd.right, .slice (some ⟨b2, 0, none⟩) y.nd.list.length c2'] * (Asn.blk g12 98 #[.int .i64 x.pg, .int .i64 x.nd.tree, .int .i64 x.nd.level, .int .i64 x.nd.stamp, .bool x.nd.has, .string (ofL x.nd.high), .int .i64 x.nd.right, .slice A x.nd.list.length c] * (aEnts x.nd (.slice A x.nd.list.length c) * (aEnts y.nd (.slice (some ⟨b2, 0, none⟩) y.nd.list.length c2') * (aEnts s.nd (.slice A3 s.nd.list.length c3) * (aG g9 gs s.left * (aSf gs S V * C))))))))) => joined_any s.nd x.nd (.slice A3 s.nd.list.length c3) (.slice A x.nd.list.length c) W (Row3.of_vec (show Own w0 No W (Asn.vec 44 3 (.slice A3 s.nd.list.length c3) s.nd.list.length (cells3 s.nd.list) * _) from h.right.right.right.right.right).vec) (Row3.of_vec (show Own w0 No W (Asn.vec 44 3 (.slice A x.nd.list.length c) x.nd.list.length (cells3 x.nd.list) * _) from h.right.right.right).vec) (by omega))
  have HWo := Lib.hid (fun W (h : Own w0 No W (Asn.blk g15 98 #[.int .i64 s.pg, .int .i64 s.nd.tree, .int .i64 s.nd.level, .int .i64 s.nd.stamp, .bool s.nd.has, .string (ofL s.nd.high), .int .i64 s.nd.right, .slice A3 s.nd.list.length c3] * (Asn.blk g13 98 #[.int .i64 y.pg, .int .i64 y.nd.tree, .int .i64 y.nd.level, .int .i64 y.nd.stamp, .bool y.nd.has, .string (ofL y.nd.high), .int .i64 y.nd.right, .slice (some ⟨b2, 0, none⟩) y.nd.list.length c2'] * (Asn.blk g12 98 #[.int .i64 x.pg, .int .i64 x.nd.tree, .int .i64 x.nd.level, .int .i64 x.nd.stamp, .bool x.nd.has, .string (ofL x.nd.high), .int .i64 x.nd.right, .slice A x.nd.list.length c] * (aEnts x.nd (.slice A x.nd.list.length c) * (aEnts y.nd (.slice (some ⟨b2, 0, none⟩) y.nd.list.length c2') * (aEnts s.nd (.slice A3 s.nd.list.length c3) * (aG g9 gs s.left * (aSf gs S V * C))))))))) => without_any y.nd (.slice (some ⟨b2, 0, none⟩) y.nd.list.length c2') q W (Row3.of_vec (show Own w0 No W (Asn.vec 44 3 (.slice (some ⟨b2, 0, none⟩) y.nd.list.length c2') y.nd.list.length (cells3 y.nd.list) * _) from h.right.right.right.right).vec) (by omega) hql)
  unfold nodCells at HJo HWo
  have tA := F.out _ S9.out
  go_region_held3 (fun W : World => (W.cell? ⟨g15, 0, none⟩ = some (.int .i64 s.pg) ∧ W.cell? ⟨g15, 1, none⟩ = some (.int .i64 s.nd.tree) ∧ W.cell? ⟨g15, 2, none⟩ = some (.int .i64 s.nd.level) ∧ W.cell? ⟨g15, 3, none⟩ = some (.int .i64 s.nd.stamp) ∧ W.cell? ⟨g15, 4, none⟩ = some (.bool s.nd.has) ∧ W.cell? ⟨g15, 5, none⟩ = some (.string (ofL s.nd.high)) ∧ W.cell? ⟨g15, 6, none⟩ = some (.int .i64 s.nd.right) ∧ W.cell? ⟨g15, 7, none⟩ = some (.slice A3 s.nd.list.length c3)) ∧ (W.cell? ⟨g13, 0, none⟩ = some (.int .i64 y.pg) ∧ W.cell? ⟨g13, 1, none⟩ = some (.int .i64 y.nd.tree) ∧ W.cell? ⟨g13, 2, none⟩ = some (.int .i64 y.nd.level) ∧ W.cell? ⟨g13, 3, none⟩ = some (.int .i64 y.nd.stamp) ∧ W.cell? ⟨g13, 4, none⟩ = some (.bool y.nd.has) ∧ W.cell? ⟨g13, 5, none⟩ = some (.string (ofL y.nd.high)) ∧ W.cell? ⟨g13, 6, none⟩ = some (.int .i64 y.nd.right) ∧ W.cell? ⟨g13, 7, none⟩ = some (.slice (some ⟨b2, 0, none⟩) y.nd.list.length c2')) ∧ (W.cell? ⟨g12, 0, none⟩ = some (.int .i64 x.pg) ∧ W.cell? ⟨g12, 1, none⟩ = some (.int .i64 x.nd.tree) ∧ W.cell? ⟨g12, 2, none⟩ = some (.int .i64 x.nd.level) ∧ W.cell? ⟨g12, 3, none⟩ = some (.int .i64 x.nd.stamp) ∧ W.cell? ⟨g12, 4, none⟩ = some (.bool x.nd.has) ∧ W.cell? ⟨g12, 5, none⟩ = some (.string (ofL x.nd.high)) ∧ W.cell? ⟨g12, 6, none⟩ = some (.int .i64 x.nd.right) ∧ W.cell? ⟨g12, 7, none⟩ = some (.slice A x.nd.list.length c))) (first | exact tA | exact tB | exact tC | exact tD) (first | (go_at_call 48; refine (HJo.out _ S9.out).mono ?_; rintro e2 w10 ⟨p4, rfl, hX⟩; have SA := Lib.hid (own_join S9.out hX); clear hX; obtain ⟨A4, c4, rfl⟩ := (show Own w0 No w10 (Asn.vec 44 3 p4 s.nd.list.length (cells3 s.nd.list) * _) from SA.out).vec.slice; have tB := F.out _ SA.out.right) | (go_at_call 49; refine (HWo.out _ SA.out.right).mono ?_; rintro e3 w11 ⟨p5, rfl, hX⟩; have SB := Lib.hid (own_join SA.out hX); clear hX; obtain ⟨A5, c5, rfl⟩ := (show Own w0 No w11 (Asn.vec 44 3 p5 (y.nd.list.eraseIdx q).length (cells3 (y.nd.list.eraseIdx q)) * _) from SB.out).vec.slice; have tC := F.out _ SB.out.right.right; have SC := Lib.hid (SB.out.alloc #[.int .i64 s.pg, .int .i64 s.nd.tree, .int .i64 s.nd.level, .int .i64 s.nd.stamp, .bool x.nd.has, .string (ofL x.nd.high), .int .i64 x.nd.right, .slice A4 s.nd.list.length c4, .int .i64 y.pg, .int .i64 y.nd.tree, .int .i64 y.nd.level, .int .i64 y.nd.stamp, .bool y.nd.has, .string (ofL y.nd.high), .int .i64 y.nd.right, .slice A5 (y.nd.list.eraseIdx q).length c5] 73); have tD := F.out _ SC.out.right.right.right))
  have hr := HR7.out
  subst hr
  have h1 := (show Own w0 No (w11.alloc (.cells #[.int .i64 s.pg, .int .i64 s.nd.tree, .int .i64 s.nd.level, .int .i64 s.nd.stamp, .bool x.nd.has, .string (ofL x.nd.high), .int .i64 x.nd.right, .slice A4 s.nd.list.length c4, .int .i64 y.pg, .int .i64 y.nd.tree, .int .i64 y.nd.level, .int .i64 y.nd.stamp, .bool y.nd.has, .string (ofL y.nd.high), .int .i64 y.nd.right, .slice A5 (y.nd.list.eraseIdx q).length c5] 73)) (Asn.blk w11.heap.size 73 (spL ([⟨s.pg, { s.nd with has := x.nd.has, high := x.nd.high, right := x.nd.right }, .slice A4 s.nd.list.length c4⟩, ⟨y.pg, { y.nd with list := y.nd.list.eraseIdx q }, .slice A5 (y.nd.list.eraseIdx q).length c5⟩] : List Sp)).toArray * _) from SC.out).imp (Imp.l (blk_vec 2 8 rfl (by decide)))
  have e1 : aLs ([⟨s.pg, { s.nd with has := x.nd.has, high := x.nd.high, right := x.nd.right }, .slice A4 s.nd.list.length c4⟩, ⟨y.pg, { y.nd with list := y.nd.list.eraseIdx q }, .slice A5 (y.nd.list.eraseIdx q).length c5⟩] : List Sp) = aEnts { s.nd with has := x.nd.has, high := x.nd.high, right := x.nd.right } (.slice A4 s.nd.list.length c4) * aEnts { y.nd with list := y.nd.list.eraseIdx q } (.slice A5 (y.nd.list.eraseIdx q).length c5) := by
    rw [aLs, aLs, aLs, mul_emp]
  have S10 := Lib.hid ((h1.re (show _ = (Asn.blk g15 98 #[.int .i64 s.pg, .int .i64 s.nd.tree, .int .i64 s.nd.level, .int .i64 s.nd.stamp, .bool s.nd.has, .string (ofL s.nd.high), .int .i64 s.nd.right, .slice A3 s.nd.list.length c3] * (Asn.blk g13 98 #[.int .i64 y.pg, .int .i64 y.nd.tree, .int .i64 y.nd.level, .int .i64 y.nd.stamp, .bool y.nd.has, .string (ofL y.nd.high), .int .i64 y.nd.right, .slice (some ⟨b2, 0, none⟩) y.nd.list.length c2'] * (Asn.blk g12 98 #[.int .i64 x.pg, .int .i64 x.nd.tree, .int .i64 x.nd.level, .int .i64 x.nd.stamp, .bool x.nd.has, .string (ofL x.nd.high), .int .i64 x.nd.right, .slice A x.nd.list.length c] * (aEnts x.nd (.slice A x.nd.list.length c) * (aEnts y.nd (.slice (some ⟨b2, 0, none⟩) y.nd.list.length c2') * (aEnts s.nd (.slice A3 s.nd.list.length c3) * aG g9 gs s.left)))))) * (Asn.vec 73 8 (.slice (some ⟨w11.heap.size, 0, none⟩) 2 2) 2 (spL ([⟨s.pg, { s.nd with has := x.nd.has, high := x.nd.high, right := x.nd.right }, .slice A4 s.nd.list.length c4⟩, ⟨y.pg, { y.nd with list := y.nd.list.eraseIdx q }, .slice A5 (y.nd.list.eraseIdx q).length c5⟩] : List Sp)) * (aLs ([⟨s.pg, { s.nd with has := x.nd.has, high := x.nd.high, right := x.nd.right }, .slice A4 s.nd.list.length c4⟩, ⟨y.pg, { y.nd with list := y.nd.list.eraseIdx q }, .slice A5 (y.nd.list.eraseIdx q).length c5⟩] : List Sp) * (aSf gs S V * C))) by rw [e1]; ac_rfl)).right)
  clear h1 e1 SC SB SA tA tB tC tD F HJo HWo S9
  go_wp2_with fail
  go_returns
  exact ⟨_, rfl, [⟨s.pg, { s.nd with has := x.nd.has, high := x.nd.high, right := x.nd.right }, .slice A4 s.nd.list.length c4⟩, ⟨y.pg, { y.nd with list := y.nd.list.eraseIdx q }, .slice A5 (y.nd.list.eraseIdx q).length c5⟩], rfl, S10.out⟩
end
end Go.Proofs.Yteiiogaopgfpfaa.Bk
