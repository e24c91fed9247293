/- The node that is sought. -/
import Derived.Test.YthoaangmekkcmaaBkH
namespace Go.Proofs.Ythoaangmekkcmaa.Bk
open Go.ChangeShapes Go.WideShapes Go.ChangeAt Go.RowKit Go.PlainAid Aid Nt Nd Tr
set_option linter.unusedVariables false
set_option linter.unusedSimpArgs false
set_option linter.unusedSectionVars false
theorem sk_ok (S : Sf) (level : Int) (key : By) : ∀ (f : Nat) (v : Vi) (P : List (Int × Nod)), (sk S level key f v P).2.1 = 0 → ∃ Q p n, (sk S level key f v P).2.2 = Q ++ [(p, n)]
  | 0, v, P, h => by cases h
  | f + 1, v, P, h => by
    unfold sk at h ⊢
    split
    · rename_i h1
      rw [if_pos h1] at h
      dsimp only at h ⊢
      split
      · rename_i h2
        rw [if_pos h2] at h
        split
        · exact ⟨P, _, _, rfl⟩
        · rename_i h3
          rw [if_neg h3] at h
          split
          · rename_i h4; rw [if_pos h4] at h; cases h
          · rename_i h4
            rw [if_neg h4] at h
            exact sk_ok S level key f _ _ h
      · rename_i h2; rw [if_neg h2] at h; exact absurd h h2
    · rename_i h1; rw [if_neg h1] at h; exact absurd h h1
/-- The node that is sought, by all that may be seen. -/
def so (S : Sf) (root level : Int) (key : By) : Vi :=
  if (seek S 256 root level key).2.1 = 0 then (match (seek S 256 root level key).2.2.getLast? with
    | some (p, n) => ⟨0, 0, p, n⟩
    | none => no 0 3) else no 0 (seek S 256 root level key).2.1
theorem so_bad {S : Sf} {root level : Int} {key : By} (h : (seek S 256 root level key).2.1 ≠ 0) : so S root level key = no 0 (seek S 256 root level key).2.1 := if_neg h
theorem so_ok {S : Sf} {root level : Int} {key : By} (h : (seek S 256 root level key).2.1 = 0) {Q : List (Int × Nod)} {p : Int} {n : Nod} (e : (seek S 256 root level key).2.2 = Q ++ [(p, n)]) : so S root level key = ⟨0, 0, p, n⟩ := by
  unfold so
  rw [if_pos h, e, List.getLast?_append]
  rfl
theorem plain_split {L : List Sp} {Q : List (Int × Nod)} {p : Int} {n : Nod} (h : plain L = Q ++ [(p, n)]) : ∃ L' x, L = L' ++ [x] ∧ x.pg = p ∧ x.nd = n := by
  unfold plain at h
  obtain ⟨l1, l2, rfl, -, h2⟩ := List.map_eq_append_iff.1 h
  cases l2 with
  | nil => cases h2
  | cons x l =>
    rw [List.map_cons] at h2
    obtain ⟨h3, h4⟩ := List.cons.inj h2
    cases l with
    | nil => cases h3; exact ⟨l1, x, rfl, rfl, rfl⟩
    | cons y l => cases h4
section
variable (gs : Nat) (S : Sf) (V : Nat → Value)
set_option maxRecDepth 100000 in
set_option maxHeartbeats 16000000 in
theorem sought_any (hs : Small S) (hv : LvOk S) (root level : Int) (key : By) (w0 w : World) (C : Asn) (hS : Own w0 No w (aSf gs S V * C)) :
    Calls Try.prog 43 #[pgs gs, .int .i64 root, .int .i64 level, .string (ofL key)] w fun e w' => ∃ v, e = .returned (.tuple #[.agg (spotC (so S root level key).pg (so S root level key).nd v), .int .i64 (so S root level key).err]) ∧
      Own w0 No w' (aEnts (so S root level key).nd v * (aSf gs S V * C)) := by
  have S0 := Lib.hid (((hS.alloc (spotC 0 Nod.none (.slice none 0 0)) 100).alloc #[pgs gs, .int .i64 0] 95).re (show _ = aG (w.alloc (.cells (spotC 0 Nod.none (.slice none 0 0)) 100)).heap.size gs 256 * (aSf gs S V * (Asn.blk w.heap.size 100 (spotC 0 Nod.none (.slice none 0 0)) * C)) by unfold aG; rw [show (256 : Int) - ((256 : Nat) : Int) = 0 from rfl]; ac_rfl))
  have HSk := Lib.hid (fun gg W C h => seek_any gs S V hs hv gg 256 (Nat.le_refl _) root level key w0 W C h)
  have HSB := Lib.hid (so_bad (S := S) (root := root) (level := level) (key := key))
  have HSO := Lib.hid (@so_ok S root level key)
  have HOK := Lib.hid (sk_ok S level key 300 (vis S 256 root) [])
  unfold seek at HSk HSB HSO
  generalize so S root level key = sv at *
  generalize sk S level key 300 (vis S 256 root) [] = r at *
  obtain ⟨r1, err, path⟩ := r
  dsimp only at HSk HSB HSO HOK
  unfold spotC sPtr pgs Nod.none at *
  dsimp only at S0
  rw [show ofL [] = (⟨#[]⟩ : ByteArray) from rfl] at S0
  rw [show (w.alloc (.cells #[.int .i64 0, .int .i64 0, .int .i64 0, .int .i64 0, .bool false, .string ⟨#[]⟩, .int .i64 0, .slice none 0 0] 100)).heap.size = w.heap.size + 1 by simp] at S0
  clear hS
  go_enter Try.func43, Try.ntmps43
  go_upto_region 2 with fail
  obtain ⟨g8, hgz⟩ : ∃ g, g = w.heap.size := ⟨_, rfl⟩
  rw [← hgz] at S0 ⊢
  clear hgz
  generalize g8 + 1 = g10 at *
  generalize World.alloc _ _ = w1 at *
  go_wp2_with fail
  refine (HSk.out _ _ _ S0.out).mono ?_
  rintro e w2 ⟨pv, L, rfl, hpl, hX⟩
  clear S0 HSk
  by_cases he : err = 0
  · subst he
    obtain ⟨Q, p, n, hq⟩ := HOK.out rfl
    have hsv := HSO.out rfl hq
    subst hsv hq
    obtain ⟨L', x, rfl, rfl, rfl⟩ := plain_split hpl
    rw [aLs_snoc] at hX
    obtain ⟨A, c, hxv⟩ := (show Own w0 No w2 (Asn.vec 44 3 x.v x.nd.list.length (cells3 x.nd.list) * _) from hX.re (show _ = aEnts x.nd x.v * (Asn.vec 100 8 pv (L' ++ [x]).length (spL (L' ++ [x])) * (aLs L' * (aG g10 gs r1 * (aSf gs S V * (Asn.blk g8 100 #[.int .i64 0, .int .i64 0, .int .i64 0, .int .i64 0, .bool false, .string ⟨#[]⟩, .int .i64 0, .slice none 0 0] * C))))) by ac_rfl)).vec.slice
    rw [hxv] at hX
    have S1 := Lib.hid (hX.re (show _ = (aLs L' * aG g10 gs r1) * (Asn.vec 100 8 pv (L' ++ [x]).length (spL (L' ++ [x])) * (Asn.blk g8 100 #[.int .i64 0, .int .i64 0, .int .i64 0, .int .i64 0, .bool false, .string ⟨#[]⟩, .int .i64 0, .slice none 0 0] * (aEnts x.nd (.slice A x.nd.list.length c) * (aSf gs S V * C)))) by ac_rfl)).right
    have hN : (L' ++ [x]).length = L'.length + 1 := by simp
    have hat := fun j (hj : j < 8) => spL_at (L' ++ [x]) L'.length j x (by simp) hj
    rw [hN] at S1
    obtain ⟨ba, cb, rfl, hN64⟩ : ∃ b cb, pv = .slice (some ⟨b, 0, none⟩) (L'.length + 1) cb ∧ L'.length + 1 ≤ 9223372036854775807 := by
      rcases S1.out.vec.forms with ⟨-, hz⟩ | ⟨g, cap, h, -, h1, h2⟩
      · omega
      · exact ⟨_, _, h, by unfold maxLen at h2; omega⟩
    have hc := fun j (hj : j < 8) u hu => S1.out.vec.cell (j := L'.length * 8 + j) (u := u) ((hat j hj).trans hu)
    unfold spotC at hc
    rw [hxv] at hc
    have c0 : w2.cell? ⟨ba, L'.length * 8, none⟩ = some (.int .i64 x.pg) := hc 0 (by decide) _ rfl
    have c1 := hc 1 (by decide) _ rfl
    have c2 := hc 2 (by decide) _ rfl
    have c3 := hc 3 (by decide) _ rfl
    have c4 := hc 4 (by decide) _ rfl
    have c5 := hc 5 (by decide) _ rfl
    have c6 := hc 6 (by decide) _ rfl
    have c7 := hc 7 (by decide) _ rfl
    have HST := Lib.hid (store8 (S1.out.right.has (Has.l (has_blk _ _ _))) x.pg x.nd.tree x.nd.level x.nd.stamp x.nd.right x.nd.has (ofL x.nd.high) A x.nd.list.length c)
    have S2 := Lib.hid (own_8 S1.out.right (.int .i64 x.pg) (.int .i64 x.nd.tree) (.int .i64 x.nd.level) (.int .i64 x.nd.stamp) (.bool x.nd.has) (.string (ofL x.nd.high)) (.int .i64 x.nd.right) (.slice A x.nd.list.length c))
    have hLl := S1.out.vec.len
    clear hX S1 hat hc HOK HSB HSO hpl
    generalize L'.length = N at *
    go_wp2_with (with_reducible refine step_store rfl rfl (.tmp 8) (.tmp 31) 100 rfl (.pointer (some ⟨g8, 0, none⟩)) (.agg #[.int .i64 x.pg, .int .i64 x.nd.tree, .int .i64 x.nd.level, .int .i64 x.nd.stamp, .bool x.nd.has, .string (ofL x.nd.high), .int .i64 x.nd.right, .slice A x.nd.list.length c]) ?c1 ?c2 _ HST.out ?_)
    try (case c1 => rfl)
    try (case c2 => rfl)
    exact bodyPost_ret (res8 rfl rfl rfl (S2.out.has (Has.l (has_blk _ _ _)))) rfl ⟨_, rfl, S2.out.right⟩
  · have he1 : (((err : Nat) : Int) == 0) = false := beq_eq_false_iff_ne.2 (by omega)
    have hsv := HSB.out he
    subst hsv
    have S1 := Lib.hid (hX.re (show _ = (Asn.vec 100 8 pv L.length (spL L) * (aLs L * aG g10 gs r1)) * (Asn.blk g8 100 #[.int .i64 0, .int .i64 0, .int .i64 0, .int .i64 0, .bool false, .string ⟨#[]⟩, .int .i64 0, .slice none 0 0] * (aSf gs S V * C)) by ac_rfl)).right
    have HST := Lib.hid (store_fail S1.out)
    have S2 := Lib.hid (own_8 S1.out (.int .i64 0) (.int .i64 0) (.int .i64 0) (.int .i64 0) (.bool false) (.string ⟨#[]⟩) (.int .i64 0) (.slice none 0 0))
    clear hX S1 HOK HSB HSO hpl he
    go_wp2_with (with_reducible refine step_store rfl rfl (.tmp 8) (.tmp 24) 100 rfl (.pointer (some ⟨g8, 0, none⟩)) (.agg #[.int .i64 0, .int .i64 0, .int .i64 0, .int .i64 0, .bool false, .string ⟨#[]⟩, .int .i64 0, .slice none 0 0]) ?k1 ?k2 _ HST.out ?_)
    try (case k1 => rfl)
    try (case k2 => rfl)
    refine bodyPost_ret (res8 rfl rfl rfl (S2.out.has (Has.l (has_blk _ _ _)))) rfl ⟨.slice none 0 0, rfl, ?_⟩
    exact none_ents S2.out.right
end
end Go.Proofs.Ythoaangmekkcmaa.Bk
