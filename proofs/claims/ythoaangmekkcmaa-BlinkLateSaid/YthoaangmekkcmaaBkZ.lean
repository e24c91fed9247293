/- What is to change: List. -/
import Derived.Test.YthoaangmekkcmaaBkY
namespace Go.Proofs.Ythoaangmekkcmaa.Bk
open Go.ChangeShapes Go.WideShapes Go.ChangeAt Go.RowKit Go.PlainAid Aid Nt Nd Tr
set_option linter.unusedVariables false
set_option linter.unusedSimpArgs false
set_option linter.unusedSectionVars false
/-- All entries from a node on, by Right. -/
def lgo (S : Sf) : Nat → Nod → List Ent → Nat × List Ent
  | 0, n, acc => if n.right = 0 then (0, acc) else (3, [])
  | l + 1, n, acc => if n.right = 0 then (0, acc) else match at_ S n.right with
    | none => (1, [])
    | some m => if m.level ≠ 0 then (3, []) else lgo S l m (acc ++ m.list)
theorem lgo_end (S : Sf) (l : Nat) (n : Nod) (acc : List Ent) (h : n.right = 0) : lgo S l n acc = (0, acc) := by
  cases l <;> (unfold lgo; rw [if_pos h])
theorem lgo_on (S : Sf) (l : Nat) (n : Nod) (acc : List Ent) (h : n.right ≠ 0) : lgo S l n acc = if (vis S l n.right).err = 0 then (if (vis S l n.right).nd.level ≠ 0 then (3, []) else lgo S (vis S l n.right).left (vis S l n.right).nd (acc ++ (vis S l n.right).nd.list)) else ((vis S l n.right).err, []) := by
  cases l with
  | zero => unfold lgo; rw [if_neg h]; rfl
  | succ l =>
    have e : lgo S (l + 1) n acc = if n.right = 0 then (0, acc) else (match at_ S n.right with
      | none => (1, [])
      | some m => if m.level ≠ 0 then (3, []) else lgo S l m (acc ++ m.list)) := rfl
    rw [e, if_neg h, vis_succ]
    cases at_ S n.right with
    | none => rfl
    | some m => dsimp only; rw [if_pos rfl]
theorem sk_left (S : Sf) (level : Int) (key : By) : ∀ (f : Nat) (v : Vi) (P : List (Int × Nod)), (sk S level key f v P).1 ≤ v.left
  | 0, v, P => Nat.le_refl _
  | f + 1, v, P => by
    unfold sk
    split
    · dsimp only
      have h1 := rgt_left S key v.left v.pg v.nd
      split
      · split
        · exact h1
        · split
          · exact h1
          · exact Nat.le_trans (sk_left S level key f _ _) (Nat.le_trans (blw_left ..) h1)
      · exact h1
    · exact Nat.le_refl _
/-- What List answers. -/
def listR (S : Sf) (root : Int) : Nat × List Ent :=
  if (seek S 256 root 0 low).2.1 = 0 then (match (seek S 256 root 0 low).2.2.getLast? with
    | some (p, n) => lgo S (seek S 256 root 0 low).1 n n.list
    | none => (3, [])) else ((seek S 256 root 0 low).2.1, [])
theorem src_vec {P : Program} {size n : Nat} {tx e' T : TypeId} (hk : P.underlying tx = some (.slice e')) {W : World} {v : Value} {xs : List Value} (h : Vec W T size v n xs) (hu : ∀ u, u ∈ xs → u.oneCell' = true) : Src P size tx v n xs W := by
  have hl := h.len
  rcases h.forms with ⟨rfl, rfl⟩ | ⟨g, cap, rfl, -, -, -⟩
  · obtain rfl : xs = [] := List.eq_nil_of_length_eq_zero (by simpa using hl)
    exact Src.ofNil W hk 0
  · exact Src.ofSlice _ hk _ n cap _ hl (fun j u hj => by rw [addr_zero]; exact h.cell hj) hu
section
variable (gs : Nat) (S : Sf) (V : Nat → Value)
set_option maxRecDepth 100000 in
set_option maxHeartbeats 32000000 in
theorem List_any (hs : Sm S) (hv : LvOk S) (root : Int) (w0 w : World) (C : Asn) (hS : Own w0 No w (aSf gs S V * C)) :
    Calls Try.prog 13 #[pgs gs, .int .i64 root] w fun r w' => ∃ v : Value, r = .returned (.tuple #[v, .int .i64 (listR S root).1]) ∧ Own w0 No w' (Asn.vec 44 3 v (listR S root).2.length (cells3 (listR S root).2) * (aSf gs S V * C)) := by
  have S0 := Lib.hid ((hS.alloc #[pgs gs, .int .i64 0] 95).re (show _ = aG w.heap.size gs 256 * (aSf gs S V * C) by unfold aG; rw [show (256 : Int) - ((256 : Nat) : Int) = 0 from rfl]))
  have HSk := Lib.hid (fun gg W C h => seek_any gs S V hs.small hv gg 256 (Nat.le_refl _) root 0 low w0 W C h)
  have HVi := Lib.hid (fun gg l hl p W C h => visit_any gs S V hs.small gg l hl p w0 W C h)
  have HOK := Lib.hid (sk_ok S 0 low 300 (vis S 256 root) [])
  have HVP := Lib.hid (fun l p => vis_P (Pr := fun n => n.list.length ≤ 99999) (by decide) hs l p)
  have hkp : ∀ x, x ∈ (seek S 256 root 0 low).2.2 → x.2.list.length ≤ 99999 := fun x hx => sk_P (S := S) (Pr := fun n => n.list.length ≤ 99999) (by decide) hs 0 low 300 (vis S 256 root) [] (vis_P (Pr := fun n => n.list.length ≤ 99999) (by decide) hs 256 root) (fun x hx => by cases hx) x hx
  have hleft : (seek S 256 root 0 low).1 ≤ 256 := Nat.le_trans (sk_left S 0 low 300 _ _) (vis_left S 256 root)
  rw [low_bytes] at HSk
  obtain ⟨r, hr⟩ : ∃ r, r = listR S root := ⟨_, rfl⟩
  rw [← hr]
  unfold listR at hr
  unfold seek at HSk hleft hkp hr
  generalize sk S 0 low 300 (vis S 256 root) [] = rr at *
  obtain ⟨r1, err, path⟩ := rr
  dsimp only at *
  have HR := Lib.hid hr
  have HKP := Lib.hid hkp
  clear hr hkp hS
  unfold pgs sPtr spotC at *
  go_enter Try.func13, Try.ntmps13
  go_upto_region 2 with fail
  obtain ⟨g6, hgz⟩ : ∃ g, g = w.heap.size := ⟨_, rfl⟩
  rw [← hgz] at S0 ⊢
  clear hgz
  generalize World.alloc _ _ = w1 at *
  go_wp2_with fail
  refine (HSk.out _ _ _ S0.out).mono ?_
  rintro e1 w2 ⟨pv, L, rfl, hpl, hX⟩
  clear HSk S0
  by_cases he : err = 0
  · subst he
    obtain ⟨Q, p, n, hq⟩ := HOK.out rfl
    subst hq
    have hr := HR.out
    rw [if_pos rfl, List.getLast?_append] at hr
    obtain ⟨L', x, rfl, rfl, rfl⟩ := plain_split hpl
    have hr' : lgo S r1 x.nd x.nd.list = r := by rw [hr]; rfl
    have HRR := Lib.hid hr'
    have hxl : x.nd.list.length ≤ 99999 := HKP.out (x.pg, x.nd) (by simp)
    clear hr hr' HR HKP HOK hpl
    rw [aLs_snoc] at hX
    obtain ⟨A, c, hxv⟩ := (show Own w0 No w2 (Asn.vec 44 3 x.v x.nd.list.length (cells3 x.nd.list) * _) from hX.re (show _ = aEnts x.nd x.v * (Asn.vec 100 8 pv (L' ++ [x]).length (spL (L' ++ [x])) * (aLs L' * (aG g6 gs r1 * (aSf gs S V * C)))) by ac_rfl)).vec.slice
    rw [hxv] at hX
    have S1 := Lib.hid (hX.re (show _ = aLs L' * (Asn.vec 100 8 pv (L' ++ [x]).length (spL (L' ++ [x])) * (aEnts x.nd (.slice A x.nd.list.length c) * (aG g6 gs r1 * (aSf gs S V * C)))) by ac_rfl)).right
    have hN : (L' ++ [x]).length = L'.length + 1 := by simp
    have hat := fun j (hj : j < 8) => spL_at (L' ++ [x]) L'.length j x (by simp) hj
    rw [hN] at S1
    obtain ⟨ba, cb, rfl, hN64⟩ : ∃ b cb, pv = .slice (some ⟨b, 0, none⟩) (L'.length + 1) cb ∧ L'.length + 1 ≤ 9223372036854775807 := by
      rcases S1.out.vec.forms with ⟨-, hz⟩ | ⟨g, cap, h, -, h1, h2⟩
      · omega
      · exact ⟨_, _, h, by unfold maxLen at h2; omega⟩
    have hc := fun j (hj : j < 8) u hu => S1.out.vec.cell (j := L'.length * 8 + j) (u := u) ((hat j hj).trans hu)
    unfold spotC at hc
    rw [hxv] at hc
    have c1 := hc 1 (by decide) _ rfl
    have c2 := hc 2 (by decide) _ rfl
    have c3 := hc 3 (by decide) _ rfl
    have c4 := hc 4 (by decide) _ rfl
    have c5 := hc 5 (by decide) _ rfl
    have c6 := hc 6 (by decide) _ rfl
    have c7 := hc 7 (by decide) _ rfl
    have S2 := Lib.hid (S1.out.right.alloc #[.int .i64 x.nd.tree, .int .i64 x.nd.level, .int .i64 x.nd.stamp, .bool x.nd.has, .string (ofL x.nd.high), .int .i64 x.nd.right, .slice A x.nd.list.length c] 52)
    clear hX S1 hat hc hN hxv
    generalize L'.length = N at *
    go_upto_region 6 with fail
    obtain ⟨g9, hgz⟩ : ∃ g, g = w2.heap.size := ⟨_, rfl⟩
    rw [← hgz] at S2 ⊢
    clear hgz c1 c2 c3 c4 c5 c6 c7
    generalize World.alloc _ _ = w3 at *
    have k6 := (S2.out.has (Has.l (has_blk _ _ _))).cell 6
    have HC := Lib.hid (clone_ents (.slice A x.nd.list.length c) x.nd.list w3 (Row3.of_vec (show Own w0 No w3 (Asn.vec 44 3 (.slice A x.nd.list.length c) x.nd.list.length (cells3 x.nd.list) * _) from S2.out.right).vec) (by omega))
    go_wp2_with fail
    refine HC.out.mono ?_
    rintro e1 w4 ⟨p4, rfl, hX⟩
    have S3 := Lib.hid (own_join S2.out hX)
    clear hX S2 HC k6
    go_wp2_with fail
    go_loopw [10, 11, 12] (fun p10 _ _ wr => ∃ (l : Nat) (m : Nod) (A1 : Option Addr) (c1 : Nat) (acc : List Ent), l ≤ 256 ∧ acc.length + l * 99999 ≤ 25699743 ∧ m.list.length ≤ 99999 ∧ Hid (lgo S l m acc = r) ∧ Hid (Own w0 No wr (Asn.vec 44 3 p10 acc.length (cells3 acc) * (Asn.blk g9 52 #[.int .i64 m.tree, .int .i64 m.level, .int .i64 m.stamp, .bool m.has, .string (ofL m.high), .int .i64 m.right, .slice A1 m.list.length c1] * (aEnts m (.slice A1 m.list.length c1) * (aG g6 gs l * (aSf gs S V * C))))))) (fun _ _ _ wr => (256 - intOf ((wr.cell? ⟨g6, 1, none⟩).getD undef)).toNat)
    case atStart => exact ⟨r1, x.nd, A, c, x.nd.list, hleft, by omega, hxl, HRR, S3⟩
    case round =>
      clear S3 HRR hxl hleft
      obtain ⟨l, m, A1, c1, acc, hl, hacc, hml, HRR, S3⟩ := hrel
      obtain ⟨av, hav⟩ : ∃ q, q = u10 := ⟨_, rfl⟩
      rw [← hav] at S3 ⊢
      clear hav
      obtain ⟨⟨k0, k1, k2, k3, k4, k5, k6⟩, -⟩ := seven7 (S3.out.has (Has.r (Has.l (has_blk _ _ _))))
      have hgc : wr.cell? ⟨g6, 1, none⟩ = some (.int .i64 (256 - (l : Int))) := (S3.out.right.right.right.has (Has.l (has_blk _ _ _))).cell 1
      have HMS : Hid ((256 - intOf ((wr.cell? ⟨g6, 1, none⟩).getD undef)).toNat = l) := Lib.hid (by rw [hgc]; simp [intOf]; omega)
      clear hgc
      by_cases hr0 : m.right = 0
      · have hrb : (m.right == 0) = true := beq_iff_eq.2 hr0
        have hrr := HRR.out
        rw [lgo_end S l m acc hr0] at hrr
        subst hrr
        have S4 := Lib.hid ((S3.out.re (show _ = (Asn.blk g9 52 #[.int .i64 m.tree, .int .i64 m.level, .int .i64 m.stamp, .bool m.has, .string (ofL m.high), .int .i64 m.right, .slice A1 m.list.length c1] * (aEnts m (.slice A1 m.list.length c1) * aG g6 gs l)) * (Asn.vec 44 3 av acc.length (cells3 acc) * (aSf gs S V * C)) by ac_rfl)).right)
        clear S3 HRR k0 k1 k2 k3 k4 k6
        go_wp2_with fail
        go_returns
        exact ⟨_, rfl, S4.out⟩
      · have hrb : (m.right == 0) = false := beq_eq_false_iff_ne.2 hr0
        have hrr := HRR.out
        rw [lgo_on S l m acc hr0] at hrr
        have hyl := vis_left S l m.right
        have hyl2 := vis_less S l m.right
        have hyp := HVP.out l m.right
        have HVi1 := Lib.hid (HVi.out g6 l hl m.right wr _ (S3.out.re (show _ = aG g6 gs l * (aSf gs S V * (Asn.vec 44 3 av acc.length (cells3 acc) * (Asn.blk g9 52 #[.int .i64 m.tree, .int .i64 m.level, .int .i64 m.stamp, .bool m.has, .string (ofL m.high), .int .i64 m.right, .slice A1 m.list.length c1] * (aEnts m (.slice A1 m.list.length c1) * C)))) by ac_rfl)))
        generalize vis S l m.right = y at *
        have HRG := Lib.hid hrr
        clear hrr HRR
        go_wp2_with fail
        refine HVi1.out.mono ?_
        rintro e1 w5 ⟨v5, rfl, hX⟩
        obtain ⟨A3, c3, rfl⟩ := (show Own w0 No w5 (Asn.vec 44 3 v5 y.nd.list.length (cells3 y.nd.list) * _) from hX).vec.slice
        have S4 := Lib.hid (hX.alloc #[.int .i64 y.pg, .int .i64 y.nd.tree, .int .i64 y.nd.level, .int .i64 y.nd.stamp, .bool y.nd.has, .string (ofL y.nd.high), .int .i64 y.nd.right, .slice A3 y.nd.list.length c3] 100)
        clear hX S3 HVi1 k0 k1 k2 k3 k4 k5 k6
        go_upto_region 9 with fail
        obtain ⟨g11, hgz⟩ : ∃ g, g = w5.heap.size := ⟨_, rfl⟩
        rw [← hgz] at S4 ⊢
        clear hgz
        generalize World.alloc _ _ = w6 at *
        by_cases hye : y.err = 0
        · have he0 : ((y.err : Nat) : Int) = 0 := by rw [hye]; rfl
          rw [he0]
          have hrg := HRG.out
          rw [if_pos hye] at hrg
          have hyl3 := hyl2 hye
          obtain ⟨k0, k1, k2, k3, k4, k5, k6, k7⟩ := eight_of (S4.out.has (Has.l (has_blk _ _ _)))
          by_cases hlv : y.nd.level ≠ 0
          · have hlb : (y.nd.level == 0) = false := beq_eq_false_iff_ne.2 hlv
            rw [if_pos hlv] at hrg
            subst hrg
            have S5 := Lib.hid ((S4.out.re (show _ = (Asn.blk g11 100 #[.int .i64 y.pg, .int .i64 y.nd.tree, .int .i64 y.nd.level, .int .i64 y.nd.stamp, .bool y.nd.has, .string (ofL y.nd.high), .int .i64 y.nd.right, .slice A3 y.nd.list.length c3] * (aEnts y.nd (.slice A3 y.nd.list.length c3) * (aG g6 gs y.left * (Asn.vec 44 3 av acc.length (cells3 acc) * (Asn.blk g9 52 #[.int .i64 m.tree, .int .i64 m.level, .int .i64 m.stamp, .bool m.has, .string (ofL m.high), .int .i64 m.right, .slice A1 m.list.length c1] * aEnts m (.slice A1 m.list.length c1)))))) * (aSf gs S V * C) by ac_rfl)).right.nilVec 44 3)
            clear S4 HRG k0 k1 k3 k4 k5 k6 k7 hye hlv
            go_wp2_with fail
            go_returns
            exact ⟨_, rfl, S5.out⟩
          · have hlv0 : y.nd.level = 0 := Decidable.byContradiction hlv
            have hlb : (y.nd.level == 0) = true := beq_iff_eq.2 hlv0
            rw [if_neg hlv] at hrg
            have HRR := Lib.hid hrg
            have HLB := Lib.hid hlb
            have S5 := Lib.hid (S4.out.re (show _ = Asn.blk g9 52 #[.int .i64 m.tree, .int .i64 m.level, .int .i64 m.stamp, .bool m.has, .string (ofL m.high), .int .i64 m.right, .slice A1 m.list.length c1] * (Asn.blk g11 100 #[.int .i64 y.pg, .int .i64 y.nd.tree, .int .i64 y.nd.level, .int .i64 y.nd.stamp, .bool y.nd.has, .string (ofL y.nd.high), .int .i64 y.nd.right, .slice A3 y.nd.list.length c3] * (aEnts y.nd (.slice A3 y.nd.list.length c3) * (aG g6 gs y.left * (aSf gs S V * (Asn.vec 44 3 av acc.length (cells3 acc) * (aEnts m (.slice A1 m.list.length c1) * C)))))) by ac_rfl))
            have HST := Lib.hid (store7 (S5.out.has (Has.l (has_blk _ _ _))) y.nd.tree y.nd.level y.nd.stamp y.nd.right y.nd.has (ofL y.nd.high) A3 y.nd.list.length c3)
            have S6 := Lib.hid ((own_7 S5.out (.int .i64 y.nd.tree) (.int .i64 y.nd.level) (.int .i64 y.nd.stamp) (.bool y.nd.has) (.string (ofL y.nd.high)) (.int .i64 y.nd.right) (.slice A3 y.nd.list.length c3)).re (show _ = Asn.vec 44 3 av acc.length (cells3 acc) * (Asn.blk g9 52 #[.int .i64 y.nd.tree, .int .i64 y.nd.level, .int .i64 y.nd.stamp, .bool y.nd.has, .string (ofL y.nd.high), .int .i64 y.nd.right, .slice A3 y.nd.list.length c3] * (Asn.blk g11 100 #[.int .i64 y.pg, .int .i64 y.nd.tree, .int .i64 y.nd.level, .int .i64 y.nd.stamp, .bool y.nd.has, .string (ofL y.nd.high), .int .i64 y.nd.right, .slice A3 y.nd.list.length c3] * (aEnts y.nd (.slice A3 y.nd.list.length c3) * (aG g6 gs y.left * (aSf gs S V * (aEnts m (.slice A1 m.list.length c1) * C)))))) by ac_rfl))
            clear S4 S5 hrg HRG hye hlv hlv0
            go_upto_region 14 with (with_reducible refine step_store rfl rfl (.tmp 9) (.tmp 50) 52 rfl (.pointer (some ⟨g9, 0, none⟩)) (.agg #[.int .i64 y.nd.tree, .int .i64 y.nd.level, .int .i64 y.nd.stamp, .bool y.nd.has, .string (ofL y.nd.high), .int .i64 y.nd.right, .slice A3 y.nd.list.length c3]) ?c1 ?c2 _ HST.out ?_)
            try (case c1 => rfl)
            try (case c2 => rfl)
            clear HST k0 k1 k2 k3 k4 k5 k6 k7 hlb
            generalize World.setCell (World.setCell (World.setCell (World.setCell (World.setCell (World.setCell (World.setCell w6 _ _) _ _) _ _) _ _) _ _) _ _) _ _ = w7 at *
            have k6 := (S6.out.has (Has.r (Has.l (has_blk _ _ _)))).cell 6
            have CX : Hid (Src Try.prog 3 27 (.slice A3 y.nd.list.length c3) y.nd.list.length (cells3 y.nd.list) w7) := Lib.hid (src_vec Try.underlying27 (show Own w0 No w7 (Asn.vec 44 3 (.slice A3 y.nd.list.length c3) y.nd.list.length (cells3 y.nd.list) * _) from S6.out.right.right.right).vec (ents_one _))
            go_wp2_with (with_reducible refine wpList_append_vec rfl (.tmp 51) (.tmp 53) 27 27 rfl 44 _ 3 40 Try.underlying27 info_entry ?d1 ?d2 av acc.length (cells3 acc) ?d7 S6.out.vec (.slice A3 y.nd.list.length c3) ?d8 y.nd.list.length _ CX.out ?d3 ?d4 ?_)
            case d1 => rfl
            case d2 => decide
            case d3 => unfold maxLen; omega
            case d4 => omega
            case d7 => rfl
            case d8 => rfl
            intro v' w8 hv8 hc8 hf8
            have S7 := Lib.hid (S6.out.app hv8 hc8 hf8)
            obtain ⟨A8, c8, rfl⟩ := hv8.slice
            clear S6 CX hv8 hc8 hf8 k6
            have hcl : cells3 (acc ++ y.nd.list) = cells3 acc ++ cells3 y.nd.list := cells3_app _ _
            have S8 : Hid (Own w0 No w8 (Asn.vec 44 3 (.slice A8 (acc.length + y.nd.list.length) c8) (acc ++ y.nd.list).length (cells3 (acc ++ y.nd.list)) * (Asn.blk g9 52 #[.int .i64 y.nd.tree, .int .i64 y.nd.level, .int .i64 y.nd.stamp, .bool y.nd.has, .string (ofL y.nd.high), .int .i64 y.nd.right, .slice A3 y.nd.list.length c3] * (aEnts y.nd (.slice A3 y.nd.list.length c3) * (aG g6 gs y.left * (aSf gs S V * C)))))) := Lib.hid (by
              rw [hcl, List.length_append]
              exact (S7.out.re (show _ = (Asn.blk g11 100 #[.int .i64 y.pg, .int .i64 y.nd.tree, .int .i64 y.nd.level, .int .i64 y.nd.stamp, .bool y.nd.has, .string (ofL y.nd.high), .int .i64 y.nd.right, .slice A3 y.nd.list.length c3] * aEnts m (.slice A1 m.list.length c1)) * (Asn.vec 44 3 (.slice A8 (acc.length + y.nd.list.length) c8) (acc.length + y.nd.list.length) (cells3 acc ++ cells3 y.nd.list) * (Asn.blk g9 52 #[.int .i64 y.nd.tree, .int .i64 y.nd.level, .int .i64 y.nd.stamp, .bool y.nd.has, .string (ofL y.nd.high), .int .i64 y.nd.right, .slice A3 y.nd.list.length c3] * (aEnts y.nd (.slice A3 y.nd.list.length c3) * (aG g6 gs y.left * (aSf gs S V * C))))) by ac_rfl)).right)
            have HG2 := Lib.hid ((S8.out.right.right.right.has (Has.l (has_blk _ _ _))).cell 1)
            clear S7 hcl
            go_wp2_with fail
            go_roundw
            case rel => exact ⟨y.left, y.nd, A3, c3, acc ++ y.nd.list, by omega, by rw [List.length_append]; omega, hyp, HRR, S8⟩
            case measure =>
              rw [HMS.out]
              simp only [HG2.out, Option.getD_some, intOf, List.getElem?_toArray, List.getElem?_cons_succ, List.getElem?_cons_zero]
              omega
        · have he1 : (((y.err : Nat) : Int) == 0) = false := beq_eq_false_iff_ne.2 (by omega)
          have hrg := HRG.out
          rw [if_neg hye] at hrg
          subst hrg
          have S5 := Lib.hid ((S4.out.re (show _ = (Asn.blk g11 100 #[.int .i64 y.pg, .int .i64 y.nd.tree, .int .i64 y.nd.level, .int .i64 y.nd.stamp, .bool y.nd.has, .string (ofL y.nd.high), .int .i64 y.nd.right, .slice A3 y.nd.list.length c3] * (aEnts y.nd (.slice A3 y.nd.list.length c3) * (aG g6 gs y.left * (Asn.vec 44 3 av acc.length (cells3 acc) * (Asn.blk g9 52 #[.int .i64 m.tree, .int .i64 m.level, .int .i64 m.stamp, .bool m.has, .string (ofL m.high), .int .i64 m.right, .slice A1 m.list.length c1] * aEnts m (.slice A1 m.list.length c1)))))) * (aSf gs S V * C) by ac_rfl)).right.nilVec 44 3)
          clear S4 HRG hye
          go_wp2_with fail
          go_returns
          exact ⟨_, rfl, S5.out⟩
  · have he1 : (((err : Nat) : Int) == 0) = false := beq_eq_false_iff_ne.2 (by omega)
    have hr := HR.out
    rw [if_neg he] at hr
    subst hr
    have S1 := Lib.hid ((hX.re (show _ = (Asn.vec 100 8 pv L.length (spL L) * (aLs L * aG g6 gs r1)) * (aSf gs S V * C) by ac_rfl)).right.nilVec 44 3)
    clear hX HOK HR HKP HVi HVP he
    go_wp2_with fail
    go_returns
    exact ⟨_, rfl, S1.out⟩
end
end Go.Proofs.Ythoaangmekkcmaa.Bk
