/- The document's rising entries: with one more. -/
import Derived.Test.YthoaangmekkcmaaBkN
import Derived.Test.YthoaangmekkcmaaDyB
namespace Go.Proofs.Ythoaangmekkcmaa.Bk
open Go.ChangeShapes Go.WideShapes Go.ChangeAt Go.RowKit Go.PlainAid Aid Nt Nd Tr
set_option linter.unusedVariables false
set_option linter.unusedSimpArgs false
set_option linter.unusedSectionVars false
/-- One entry more is looked at: what there is so far, and whether the new one is in. -/
def rp (e : Ent) (s : List Ent × Bool) (x : Ent) : List Ent × Bool :=
  if lt x.key e.key then (s.1 ++ [x], s.2) else
    ((if s.2 then s.1 else s.1 ++ [e]) ++ (if x.key = e.key then [] else [x]), true)
def putE (l : List Ent) (e : Ent) : List Ent := if (l.foldl (rp e) ([], false)).2 then (l.foldl (rp e) ([], false)).1 else (l.foldl (rp e) ([], false)).1 ++ [e]
theorem rp_take (e : Ent) (l : List Ent) (k : Nat) (x : Ent) (h : l[k]? = some x) (s : List Ent × Bool) : (l.take (k + 1)).foldl (rp e) s = rp e ((l.take k).foldl (rp e) s) x := by
  rw [List.take_add_one, h, Option.toList_some, List.foldl_append]; rfl
theorem vec_snoc {w0 w : World} {O0 : Nat → Prop} {acc : List Ent} {x : Ent} {v : Value} {R : Asn} (h : Own w0 O0 w (Asn.vec 44 3 v (acc.length + 1) (cells3 acc ++ [.string (ofL x.key), .string (ofL x.val), .bool x.ghost]) * R)) : Own w0 O0 w (Asn.vec 44 3 v (acc ++ [x]).length (cells3 (acc ++ [x])) * R) := by
  rw [show (acc ++ [x]).length = acc.length + 1 by simp, show cells3 (acc ++ [x]) = cells3 acc ++ [.string (ofL x.key), .string (ofL x.val), .bool x.ghost] from cells3_app _ _]
  exact h
theorem three_ofE {w : World} {g : Nat} {T : TypeId} {a0 a1 a2 : Value} (h : Blk w g T #[a0, a1, a2]) :
    (w.cell? ⟨g, 0, none⟩ = some a0 ∧ w.cell? ⟨g, 1, none⟩ = some a1 ∧ w.cell? ⟨g, 2, none⟩ = some a2) ∧ True := ⟨⟨h.cell 0, h.cell 1, h.cell 2⟩, trivial⟩
set_option maxRecDepth 100000 in
set_option maxHeartbeats 16000000 in
theorem refPut_any (l : List Ent) (e : Ent) (v : Value) (w : World) (hl : l.length ≤ 100000) (hv : Row3 w v l) (hK : ∀ x, x ∈ l → x.key.length ≤ 100) (hE : e.key.length ≤ 100) :
    Calls Try.prog 46 #[v, .agg (entCells e)] w fun r w' => ∃ v', r = .returned v' ∧ Own w No w' (Asn.vec 44 3 v' (putE l e).length (cells3 (putE l e))) := by
  obtain ⟨A, c, rfl⟩ := hv.slice
  have HK := Lib.hid hK
  have HT := Lib.hid (fun (x : Ent) (hx : x.key.length ≤ 100) w => Texts_q (ofL x.key) (ofL e.key) w (by show x.key.length ≤ _; unfold maxLen; omega) (by show e.key.length ≤ _; unfold maxLen; omega))
  have S0 := Lib.hid ((((Own.none w).alloc (entCells e) 44).alloc #[] 44).imp (Imp.l (blk_vec (cs := []) 0 3 rfl (by decide))))
  have HV := Lib.hid hv
  unfold entCells at *
  clear hv hK hE
  go_enter Try.func46, Try.ntmps46
  simp only [World.size_alloc] at S0
  go_upto_region 3 with fail
  obtain ⟨g3, hgz⟩ : ∃ g, g = w.heap.size := ⟨_, rfl⟩
  rw [← hgz] at S0 ⊢
  clear hgz
  generalize World.alloc (World.alloc w _) _ = w1 at *
  go_wp2_with fail
  go_loopw [5, 6, 7] (fun out dn i wr => ∃ k : Nat, k ≤ l.length ∧ i = .int .i64 k ∧ dn = .bool ((l.take k).foldl (rp e) ([], false)).2 ∧ ((l.take k).foldl (rp e) ([], false)).1.length ≤ 2 * k ∧ Hid (Own w No wr (Asn.vec 44 3 out ((l.take k).foldl (rp e) ([], false)).1.length (cells3 ((l.take k).foldl (rp e) ([], false)).1) * (Asn.blk g3 44 #[.string (ofL e.key), .string (ofL e.val), .bool e.ghost] * Asn.emp)))) (fun _ _ i _ => l.length - (intOf i).toNat)
  case atStart => exact ⟨0, Nat.zero_le _, rfl, rfl, Nat.le_refl _, S0⟩
  case round =>
    clear S0
    obtain ⟨k, hk, rfl, rfl, hlen, S1⟩ := hrel
    by_cases hlt : k < l.length
    · obtain ⟨x, hx⟩ : ∃ x, l[k]? = some x := ⟨l[k]'(by omega), List.getElem?_eq_getElem _⟩
      obtain ⟨b, o, rfl, hbl, a0, a1, a2⟩ := (HV.out.keep S1.out.bel).at hx
      have T := Lib.hid (HT.out x (HK.out x (List.mem_of_getElem? hx)))
      have HST := Lib.hid (rp_take e l k x hx ([], false))
      generalize (l.take k).foldl (rp e) ([], false) = s at *
      obtain ⟨acc, dn⟩ := s
      dsimp only at hlen S1 ⊢
      have hce : Lib.compareBytes (ofL x.key).data.toList (ofL e.key).data.toList = if lt x.key e.key = true then -1 else if x.key = e.key then 0 else 1 := cmp_lt x.key e.key
      rw [hce] at T
      have HX := Lib.hid hx
      clear hce hx
      obtain ⟨⟨m0, m1, m2⟩, -⟩ := three_ofE (S1.out.has (Has.r (Has.l (has_blk g3 _ _))))
      go_upto_region 6 with fail
      go_quiet ((exact Calls.quiet_of (T.out _)))
      have S2 := Lib.hid (S1.out.drewN nq)
      clear S1 a0 a1 a2 m0 m1 m2 T
      generalize wr.drewN nq = w2 at *
      obtain ⟨⟨m0, m1, m2⟩, -⟩ := three_ofE (S2.out.has (Has.r (Has.l (has_blk g3 _ _))))
      obtain ⟨a0, a1, a2⟩ := (HV.out.keep S2.out.bel).at' HX.out
      cases h1 : lt x.key e.key with
      | true =>
        have S2q := Lib.hid ((S2.out.alloc #[.string (ofL x.key), .string (ofL x.val), .bool x.ghost] 44).re (show _ = Asn.vec 44 3 u5 acc.length (cells3 acc) * (Asn.blk w2.heap.size 44 #[.string (ofL x.key), .string (ofL x.val), .bool x.ghost] * (Asn.blk g3 44 #[.string (ofL e.key), .string (ofL e.val), .bool e.ghost] * Asn.emp)) by ac_rfl))
        have S2x : Hid (Src Try.prog 3 27 (.slice (some ⟨w2.heap.size, 0, none⟩) 1 1) 1 [.string (ofL x.key), .string (ofL x.val), .bool x.ghost] (w2.alloc (.cells #[.string (ofL x.key), .string (ofL x.val), .bool x.ghost] 44))) := Lib.hid (src_blk Try.underlying27 (S2q.out.has (Has.r (Has.l (has_blk _ _ _)))) rfl (by intro u hu; simp at hu; rcases hu with rfl | rfl | rfl <;> rfl))
        go_wp2_with (with_reducible refine wpList_append_vec rfl (.tmp 36) (.tmp 41) 27 27 rfl 44 _ 3 40 Try.underlying27 info_entry ?ap1a ?ap1b u5 acc.length (cells3 acc) ?ap1c S2q.out.vec (.slice (some ⟨w2.heap.size, 0, none⟩) 1 1) ?ap1d 1 _ S2x.out ?ap1e ?ap1f ?_)
        case ap1a => rfl
        case ap1b => decide
        try (case ap1c => rfl)
        try (case ap1d => rfl)
        case ap1e => unfold maxLen; omega
        case ap1f => omega
        intro v3 w3 hvap1 hcap1 hfap1
        have S3 := Lib.hid (((S2q.out.app hvap1 hcap1 hfap1).re (show _ = Asn.blk w2.heap.size 44 #[.string (ofL x.key), .string (ofL x.val), .bool x.ghost] * (Asn.vec 44 3 v3 (acc.length + 1) ((cells3 acc) ++ [.string (ofL x.key), .string (ofL x.val), .bool x.ghost]) * (Asn.blk g3 44 #[.string (ofL e.key), .string (ofL e.val), .bool e.ghost] * Asn.emp)) by ac_rfl)).right)
        clear S2 S2q S2x hvap1 hcap1 hfap1
        have S4 := Lib.hid (vec_snoc S3.out)
        clear S3
        clear a0 a1 a2 m0 m1 m2
        have hrp : rp e (acc, dn) x = (acc ++ [x], dn) := by unfold rp; rw [h1]; simp
        go_wp2_with fail
        go_round
        case rel => exact ⟨k + 1, by omega, by go_num, by rw [HST.out, hrp], by rw [HST.out, hrp]; (simp; omega), Lib.hid (by rw [HST.out, hrp]; exact S4.out)⟩
        case measure => simp only [intOf]; omega
      | false =>
        by_cases h2 : x.key = e.key
        · cases dn with
          | true =>
            have hrp : rp e (acc, true) x = (acc, true) := by unfold rp; rw [h1]; simp [h2]
            go_wp2_with fail
            go_round
            case rel => exact ⟨k + 1, by omega, by go_num, by rw [HST.out, hrp], by rw [HST.out, hrp]; (simp only []; omega), Lib.hid (by rw [HST.out, hrp]; exact S2.out)⟩
            case measure => simp only [intOf]; omega
          | false =>
            have S2q := Lib.hid ((S2.out.alloc #[.string (ofL e.key), .string (ofL e.val), .bool e.ghost] 44).re (show _ = Asn.vec 44 3 u5 acc.length (cells3 acc) * (Asn.blk w2.heap.size 44 #[.string (ofL e.key), .string (ofL e.val), .bool e.ghost] * (Asn.blk g3 44 #[.string (ofL e.key), .string (ofL e.val), .bool e.ghost] * Asn.emp)) by ac_rfl))
            have S2x : Hid (Src Try.prog 3 27 (.slice (some ⟨w2.heap.size, 0, none⟩) 1 1) 1 [.string (ofL e.key), .string (ofL e.val), .bool e.ghost] (w2.alloc (.cells #[.string (ofL e.key), .string (ofL e.val), .bool e.ghost] 44))) := Lib.hid (src_blk Try.underlying27 (S2q.out.has (Has.r (Has.l (has_blk _ _ _)))) rfl (by intro u hu; simp at hu; rcases hu with rfl | rfl | rfl <;> rfl))
            go_wp2_with (with_reducible refine wpList_append_vec rfl (.tmp 30) (.tmp 32) 27 27 rfl 44 _ 3 40 Try.underlying27 info_entry ?ap2a ?ap2b u5 acc.length (cells3 acc) ?ap2c S2q.out.vec (.slice (some ⟨w2.heap.size, 0, none⟩) 1 1) ?ap2d 1 _ S2x.out ?ap2e ?ap2f ?_)
            case ap2a => rfl
            case ap2b => decide
            try (case ap2c => rfl)
            try (case ap2d => rfl)
            case ap2e => unfold maxLen; omega
            case ap2f => omega
            intro v3 w3 hvap2 hcap2 hfap2
            have S3 := Lib.hid (((S2q.out.app hvap2 hcap2 hfap2).re (show _ = Asn.blk w2.heap.size 44 #[.string (ofL e.key), .string (ofL e.val), .bool e.ghost] * (Asn.vec 44 3 v3 (acc.length + 1) ((cells3 acc) ++ [.string (ofL e.key), .string (ofL e.val), .bool e.ghost]) * (Asn.blk g3 44 #[.string (ofL e.key), .string (ofL e.val), .bool e.ghost] * Asn.emp)) by ac_rfl)).right)
            clear S2 S2q S2x hvap2 hcap2 hfap2
            have S4 := Lib.hid (vec_snoc S3.out)
            clear S3
            clear a0 a1 a2 m0 m1 m2
            have hrp : rp e (acc, false) x = (acc ++ [e], true) := by unfold rp; rw [h1]; simp [h2]
            go_wp2_with fail
            go_round
            case rel => exact ⟨k + 1, by omega, by go_num, by rw [HST.out, hrp], by rw [HST.out, hrp]; (simp; omega), Lib.hid (by rw [HST.out, hrp]; exact S4.out)⟩
            case measure => simp only [intOf]; omega
        · cases dn with
          | true =>
            have S2q := Lib.hid ((S2.out.alloc #[.string (ofL x.key), .string (ofL x.val), .bool x.ghost] 44).re (show _ = Asn.vec 44 3 u5 acc.length (cells3 acc) * (Asn.blk w2.heap.size 44 #[.string (ofL x.key), .string (ofL x.val), .bool x.ghost] * (Asn.blk g3 44 #[.string (ofL e.key), .string (ofL e.val), .bool e.ghost] * Asn.emp)) by ac_rfl))
            have S2x : Hid (Src Try.prog 3 27 (.slice (some ⟨w2.heap.size, 0, none⟩) 1 1) 1 [.string (ofL x.key), .string (ofL x.val), .bool x.ghost] (w2.alloc (.cells #[.string (ofL x.key), .string (ofL x.val), .bool x.ghost] 44))) := Lib.hid (src_blk Try.underlying27 (S2q.out.has (Has.r (Has.l (has_blk _ _ _)))) rfl (by intro u hu; simp at hu; rcases hu with rfl | rfl | rfl <;> rfl))
            go_wp2_with (with_reducible refine wpList_append_vec rfl (.tmp 36) (.tmp 41) 27 27 rfl 44 _ 3 40 Try.underlying27 info_entry ?ap3a ?ap3b u5 acc.length (cells3 acc) ?ap3c S2q.out.vec (.slice (some ⟨w2.heap.size, 0, none⟩) 1 1) ?ap3d 1 _ S2x.out ?ap3e ?ap3f ?_)
            case ap3a => rfl
            case ap3b => decide
            try (case ap3c => rfl)
            try (case ap3d => rfl)
            case ap3e => unfold maxLen; omega
            case ap3f => omega
            intro v3 w3 hvap3 hcap3 hfap3
            have S3 := Lib.hid (((S2q.out.app hvap3 hcap3 hfap3).re (show _ = Asn.blk w2.heap.size 44 #[.string (ofL x.key), .string (ofL x.val), .bool x.ghost] * (Asn.vec 44 3 v3 (acc.length + 1) ((cells3 acc) ++ [.string (ofL x.key), .string (ofL x.val), .bool x.ghost]) * (Asn.blk g3 44 #[.string (ofL e.key), .string (ofL e.val), .bool e.ghost] * Asn.emp)) by ac_rfl)).right)
            clear S2 S2q S2x hvap3 hcap3 hfap3
            have S4 := Lib.hid (vec_snoc S3.out)
            clear S3
            clear a0 a1 a2 m0 m1 m2
            have hrp : rp e (acc, true) x = (acc ++ [x], true) := by unfold rp; rw [h1]; simp [h2]
            go_wp2_with fail
            go_round
            case rel => exact ⟨k + 1, by omega, by go_num, by rw [HST.out, hrp], by rw [HST.out, hrp]; (simp; omega), Lib.hid (by rw [HST.out, hrp]; exact S4.out)⟩
            case measure => simp only [intOf]; omega
          | false =>
            have S2q := Lib.hid ((S2.out.alloc #[.string (ofL e.key), .string (ofL e.val), .bool e.ghost] 44).re (show _ = Asn.vec 44 3 u5 acc.length (cells3 acc) * (Asn.blk w2.heap.size 44 #[.string (ofL e.key), .string (ofL e.val), .bool e.ghost] * (Asn.blk g3 44 #[.string (ofL e.key), .string (ofL e.val), .bool e.ghost] * Asn.emp)) by ac_rfl))
            have S2x : Hid (Src Try.prog 3 27 (.slice (some ⟨w2.heap.size, 0, none⟩) 1 1) 1 [.string (ofL e.key), .string (ofL e.val), .bool e.ghost] (w2.alloc (.cells #[.string (ofL e.key), .string (ofL e.val), .bool e.ghost] 44))) := Lib.hid (src_blk Try.underlying27 (S2q.out.has (Has.r (Has.l (has_blk _ _ _)))) rfl (by intro u hu; simp at hu; rcases hu with rfl | rfl | rfl <;> rfl))
            go_wp2_with (with_reducible refine wpList_append_vec rfl (.tmp 30) (.tmp 32) 27 27 rfl 44 _ 3 40 Try.underlying27 info_entry ?ap4a ?ap4b u5 acc.length (cells3 acc) ?ap4c S2q.out.vec (.slice (some ⟨w2.heap.size, 0, none⟩) 1 1) ?ap4d 1 _ S2x.out ?ap4e ?ap4f ?_)
            case ap4a => rfl
            case ap4b => decide
            try (case ap4c => rfl)
            try (case ap4d => rfl)
            case ap4e => unfold maxLen; omega
            case ap4f => omega
            intro v3 w3 hvap4 hcap4 hfap4
            have S3 := Lib.hid (((S2q.out.app hvap4 hcap4 hfap4).re (show _ = Asn.blk w2.heap.size 44 #[.string (ofL e.key), .string (ofL e.val), .bool e.ghost] * (Asn.vec 44 3 v3 (acc.length + 1) ((cells3 acc) ++ [.string (ofL e.key), .string (ofL e.val), .bool e.ghost]) * (Asn.blk g3 44 #[.string (ofL e.key), .string (ofL e.val), .bool e.ghost] * Asn.emp)) by ac_rfl)).right)
            clear S2 S2q S2x hvap4 hcap4 hfap4
            have S4 := Lib.hid (vec_snoc S3.out)
            clear S3
            clear a0 a1 a2 m0 m1 m2
            obtain ⟨a0, a1, a2⟩ := (HV.out.keep S4.out.bel).at' HX.out
            have hl2 : (acc ++ [e]).length ≤ 2 * k + 1 := by simp; omega
            obtain ⟨acc2, hac⟩ : ∃ a, a = acc ++ [e] := ⟨_, rfl⟩
            rw [← hac] at S4 hl2
            have HAC := Lib.hid hac
            clear hac
            have S4q := Lib.hid ((S4.out.alloc #[.string (ofL x.key), .string (ofL x.val), .bool x.ghost] 44).re (show _ = Asn.vec 44 3 v3 acc2.length (cells3 acc2) * (Asn.blk w3.heap.size 44 #[.string (ofL x.key), .string (ofL x.val), .bool x.ghost] * (Asn.blk g3 44 #[.string (ofL e.key), .string (ofL e.val), .bool e.ghost] * Asn.emp)) by ac_rfl))
            have S4x : Hid (Src Try.prog 3 27 (.slice (some ⟨w3.heap.size, 0, none⟩) 1 1) 1 [.string (ofL x.key), .string (ofL x.val), .bool x.ghost] (w3.alloc (.cells #[.string (ofL x.key), .string (ofL x.val), .bool x.ghost] 44))) := Lib.hid (src_blk Try.underlying27 (S4q.out.has (Has.r (Has.l (has_blk _ _ _)))) rfl (by intro u hu; simp at hu; rcases hu with rfl | rfl | rfl <;> rfl))
            go_wp2_with (with_reducible refine wpList_append_vec rfl (.tmp 36) (.tmp 41) 27 27 rfl 44 _ 3 40 Try.underlying27 info_entry ?ap5a ?ap5b v3 acc2.length (cells3 acc2) ?ap5c S4q.out.vec (.slice (some ⟨w3.heap.size, 0, none⟩) 1 1) ?ap5d 1 _ S4x.out ?ap5e ?ap5f ?_)
            case ap5a => rfl
            case ap5b => decide
            try (case ap5c => rfl)
            try (case ap5d => rfl)
            case ap5e => unfold maxLen; omega
            case ap5f => omega
            intro v4 w4 hvap5 hcap5 hfap5
            have S5 := Lib.hid (((S4q.out.app hvap5 hcap5 hfap5).re (show _ = Asn.blk w3.heap.size 44 #[.string (ofL x.key), .string (ofL x.val), .bool x.ghost] * (Asn.vec 44 3 v4 (acc2.length + 1) ((cells3 acc2) ++ [.string (ofL x.key), .string (ofL x.val), .bool x.ghost]) * (Asn.blk g3 44 #[.string (ofL e.key), .string (ofL e.val), .bool e.ghost] * Asn.emp)) by ac_rfl)).right)
            clear S4 S4q S4x hvap5 hcap5 hfap5
            have S6 := Lib.hid (vec_snoc S5.out)
            clear S5
            clear a0 a1 a2
            have hrp : rp e (acc, false) x = (acc2 ++ [x], true) := by unfold rp; rw [h1]; simp [h2, HAC.out]
            go_wp2_with fail
            go_round
            case rel => exact ⟨k + 1, by omega, by go_num, by rw [HST.out, hrp], by rw [HST.out, hrp]; (simp; omega), Lib.hid (by rw [HST.out, hrp]; exact S6.out)⟩
            case measure => simp only [intOf]; omega
    · obtain rfl : k = l.length := by omega
      rw [List.take_length] at S1 hlen ⊢
      have HPE : Hid (putE l e = if (l.foldl (rp e) ([], false)).2 then (l.foldl (rp e) ([], false)).1 else (l.foldl (rp e) ([], false)).1 ++ [e]) := Lib.hid rfl
      generalize l.foldl (rp e) ([], false) = s at *
      obtain ⟨acc, dn⟩ := s
      dsimp only at hlen S1 HPE ⊢
      obtain ⟨⟨m0, m1, m2⟩, -⟩ := three_ofE (S1.out.has (Has.r (Has.l (has_blk g3 _ _))))
      cases dn with
      | true =>
        go_wp2_with fail
        go_returns
        rw [show putE l e = acc by have := HPE.out; simpa using this]
        exact ⟨_, rfl, (S1.out.re (show _ = (Asn.blk g3 44 #[.string (ofL e.key), .string (ofL e.val), .bool e.ghost] * Asn.emp) * Asn.vec 44 3 u5 acc.length (cells3 acc) by ac_rfl)).right⟩
      | false =>
        have S1q := Lib.hid ((S1.out.alloc #[.string (ofL e.key), .string (ofL e.val), .bool e.ghost] 44).re (show _ = Asn.vec 44 3 u5 acc.length (cells3 acc) * (Asn.blk wr.heap.size 44 #[.string (ofL e.key), .string (ofL e.val), .bool e.ghost] * (Asn.blk g3 44 #[.string (ofL e.key), .string (ofL e.val), .bool e.ghost] * Asn.emp)) by ac_rfl))
        have S1x : Hid (Src Try.prog 3 27 (.slice (some ⟨wr.heap.size, 0, none⟩) 1 1) 1 [.string (ofL e.key), .string (ofL e.val), .bool e.ghost] (wr.alloc (.cells #[.string (ofL e.key), .string (ofL e.val), .bool e.ghost] 44))) := Lib.hid (src_blk Try.underlying27 (S1q.out.has (Has.r (Has.l (has_blk _ _ _)))) rfl (by intro u hu; simp at hu; rcases hu with rfl | rfl | rfl <;> rfl))
        go_wp2_with (with_reducible refine wpList_append_vec rfl (.tmp 45) (.tmp 47) 27 27 rfl 44 _ 3 40 Try.underlying27 info_entry ?ap6a ?ap6b u5 acc.length (cells3 acc) ?ap6c S1q.out.vec (.slice (some ⟨wr.heap.size, 0, none⟩) 1 1) ?ap6d 1 _ S1x.out ?ap6e ?ap6f ?_)
        case ap6a => rfl
        case ap6b => decide
        try (case ap6c => rfl)
        try (case ap6d => rfl)
        case ap6e => unfold maxLen; omega
        case ap6f => omega
        intro v3 w3 hvap6 hcap6 hfap6
        have S3 := Lib.hid (((S1q.out.app hvap6 hcap6 hfap6).re (show _ = Asn.blk wr.heap.size 44 #[.string (ofL e.key), .string (ofL e.val), .bool e.ghost] * (Asn.vec 44 3 v3 (acc.length + 1) ((cells3 acc) ++ [.string (ofL e.key), .string (ofL e.val), .bool e.ghost]) * (Asn.blk g3 44 #[.string (ofL e.key), .string (ofL e.val), .bool e.ghost] * Asn.emp)) by ac_rfl)).right)
        clear S1 S1q S1x hvap6 hcap6 hfap6
        have S4 := Lib.hid (vec_snoc S3.out)
        clear S3
        clear m0 m1 m2
        go_wp2_with fail
        go_returns
        rw [show putE l e = acc ++ [e] by have := HPE.out; simpa using this]
        exact ⟨_, rfl, (S4.out.re (show _ = (Asn.blk g3 44 #[.string (ofL e.key), .string (ofL e.val), .bool e.ghost] * Asn.emp) * Asn.vec 44 3 v3 (acc ++ [e]).length (cells3 (acc ++ [e])) by ac_rfl)).right⟩
end Go.Proofs.Ythoaangmekkcmaa.Bk
