/- What is told of a tray behind each deed. -/
import Derived.Test.YtapdpdhibpblgaaGreatDoorTrS
import Derived.Test.YtapdpdhibpblgaaGreatDoorNdQ
namespace Go.Proofs.YtapdpdhibpblgaaGreatDoor.Tr
open Go.ChangeShapes Go.WideShapes Go.ChangeAt Go.RowKit Go.PlainAid Aid Nt Nd Cr
set_option linter.unusedVariables false
set_option linter.unusedSimpArgs false
set_option linter.unusedSectionVars false
theorem nums_at (H : List Sh) (i : Nat) (x : Sh) (hx : H[i]? = some x) : (nums H)[i]? = some (.int .i64 x.page) := by
  have := flatMap_at (fun x : Sh => [Value.int .i64 x.page]) 1 (fun _ => rfl) H i 0 x hx (by decide)
  rw [Nat.mul_one, Nat.add_zero] at this
  exact this
theorem dty_at' (D : List Db) (i : Nat) (y : Db) (hy : D[i]? = some y) (j : Nat) (hj : j < 2) : (dty D)[i * 2 + j]? = [Value.int .i64 y.page, .int .i64 y.first][j]? :=
  flatMap_at (fun x : Db => [Value.int .i64 x.page, .int .i64 x.first]) 2 (fun _ => rfl) D i j y hy hj
set_option maxRecDepth 100000 in
set_option maxHeartbeats 32000000 in
theorem told_any (k i K : Nat) (hk : k ≤ 9) (hi : i ≤ 100) (y : Lay) (v : Vs) (h : Nat → Option Sh) (s : W3) (R : Nat → Rp) (gu gp : Nat) (hg : Tie k i K R h s) (w0 w : World) (C : Asn)
    (hR : ∀ p, p < k → Row3 w0 (R p).nv (R p).nd.list) (hS : Own w0 No w (aB y k v h (Ls K) s (Asn.blk y.gb 42 (bRow y) * (aRt gu gp k R * C)))) :
    Calls Tryz.prog 20 #[.pointer (some ⟨y.gb, 0, none⟩), .pointer (some ⟨gu, 0, none⟩), .int .i64 k] w fun e w' => e = .returned (.bool true) ∧ Own w0 No w' (aB y k v h (Ls K) s (Asn.blk y.gb 42 (bRow y) * (aRt gu gp k R * C))) := by
  have G := Lib.hid hg
  have HR := Lib.hid hR
  have S := Lib.hid hS
  have hlh := lst_le h k
  have hld := lst_le s.d k
  obtain ⟨-, -, -, c3'⟩ := b_cells hS
  have HHe := Lib.hid (bHeld y k (by omega) v h hg.good.oks (Ls K) s hg.good.okd w0 w _ hS)
  clear hS hg hR
  go_enter Tryz.func20, Tryz.ntmps20
  go_wp2_with fail
  refine HHe.out.mono ?_
  rintro e w1 ⟨ph, rfl, hX⟩
  obtain ⟨AH, mH, rfl⟩ := hX.vec.slice
  have S1 := Lib.hid (hX.re (show _ = aB y k v h (Ls K) s (Asn.blk y.gb 42 (bRow y) * (Asn.vec 3 1 (.slice AH (lst h k).length mH) (lst h k).length (nums (lst h k)) * (aRt gu gp k R * C))) by unfold aB; ac_rfl))
  clear hX S HHe c3'
  obtain ⟨-, -, -, c3'⟩ := b_cells S1.out
  have HDi := Lib.hid (bDirty y k (by omega) v h G.out.good.oks (Ls K) s G.out.good.okd w0 w1 _ S1.out)
  go_wp2_with fail
  refine HDi.out.mono ?_
  rintro e w2 ⟨pd, rfl, hX⟩
  obtain ⟨AD, mD, rfl⟩ := hX.vec.slice
  have S2 := Lib.hid (hX.re (show _ = Asn.vec 3 1 (.slice AH (lst h k).length mH) (lst h k).length (nums (lst h k)) * (Asn.vec 72 2 (.slice AD (lst s.d k).length mD) (lst s.d k).length (dty (lst s.d k)) * (aB y k v h (Ls K) s (Asn.blk y.gb 42 (bRow y) * (aRt gu gp k R * C)))) by unfold aB; ac_rfl))
  clear hX S1 HDi c3'
  obtain ⟨nH, hnH⟩ : ∃ n, n = (lst h k).length := ⟨_, rfl⟩
  obtain ⟨nD, hnD⟩ : ∃ n, n = (lst s.d k).length := ⟨_, rfl⟩
  rw [← hnH] at hlh S2 ⊢
  rw [← hnD] at hld S2 ⊢
  have HH := Lib.hid hnH
  have HD := Lib.hid hnD
  clear hnH hnD
  go_wp2_with fail
  go_loopw [9, 10, 11, 12, 13, 14, 15, 16] (fun p9 p10 p11 _ _ _ _ _ wr => ∃ j a b : Nat, p11 = .int .i64 j ∧ p9 = .int .i64 a ∧ p10 = .int .i64 b ∧ j ≤ k ∧ Hid (a = (lst h j).length) ∧ Hid (b = (lst s.d j).length) ∧ Hid (Own w0 No wr (Asn.vec 3 1 (.slice AH nH mH) nH (nums (lst h k)) * (Asn.vec 72 2 (.slice AD nD mD) nD (dty (lst s.d k)) * (aB y k v h (Ls K) s (Asn.blk y.gb 42 (bRow y) * (aRt gu gp k R * C))))))) (fun _ _ p11 _ _ _ _ _ _ => k + 1 - (intOf p11).toNat)
  case atStart => exact ⟨0, 0, 0, rfl, rfl, rfl, Nat.zero_le _, Lib.hid rfl, Lib.hid rfl, S2⟩
  case round =>
    clear S2
    obtain ⟨j, a, b, rfl, rfl, rfl, hj, Ha, Hb, S2⟩ := hrel
    by_cases hlt : j < k
    · have hjk : (j : Int) < (k : Int) := by omega
      have g1 := Lib.hid (G.out.page j hlt)
      obtain ⟨AN, cN, hnv⟩ : ∃ A c, (R j).nv = .slice A (R j).nd.list.length c := (HR.out j hlt).slice
      have S3 := Lib.hid (S2.out.re (show _ = aRt gu gp k R * (Asn.vec 3 1 (.slice AH nH mH) nH (nums (lst h k)) * (Asn.vec 72 2 (.slice AD nD mD) nD (dty (lst s.d k)) * (aB y k v h (Ls K) s (Asn.blk y.gb 42 (bRow y) * C)))) by unfold aB; ac_rfl))
      clear S2
      have HFi := Lib.hid (rFirst_any gu gp k (by omega) R j hlt (by have := g1.out.len; omega) (by have := g1.out.len; omega) ⟨_, _, _, hnv⟩ w0 wr _ S3.out)
      have hvr := S3.out
      unfold aRt at hvr
      have t0 : wr.cell? ⟨gu, 0, none⟩ = some (.slice (some ⟨gp, 0, none⟩) k k) := (hvr.has (Has.l (Has.l (has_blk _ _ _)))).cell 0
      have q9 : wr.cell? ⟨gp, j * 10 + 9, none⟩ = some (.bool (R j).held) := (hvr.re (show _ = Asn.vec 59 10 (.slice (some ⟨gp, 0, none⟩) k k) k (rps k R) * (Asn.blk gu 62 #[.slice (some ⟨gp, 0, none⟩) k k] * (aU R k * (Asn.vec 3 1 (.slice AH nH mH) nH (nums (lst h k)) * (Asn.vec 72 2 (.slice AD nD mD) nD (dty (lst s.d k)) * (aB y k v h (Ls K) s (Asn.blk y.gb 42 (bRow y) * C)))))) by ac_rfl)).vec.cell (rps_at k R j 9 hlt (by decide))
      clear hvr hnv
      rw [g1.out.held] at q9
      have hfs := tie_first G.out j hlt
      cases hx : h j with
      | none =>
        rw [hx] at q9
        dsimp only [Option.isSome] at q9
        cases hd : s.d j with
        | none =>
          rw [hd] at hfs
          dsimp only at hfs
          rw [hfs] at HFi
          go_wp2_with fail
          refine HFi.out.mono ?_
          rintro e w4 ⟨rfl, hX⟩
          have S5 := Lib.hid hX
          clear hX S3 HFi t0 q9
          have HRe := Lib.hid (bRead y k v h (Ls K) s j hlt w0 _ _ (S5.out.re (show _ = aB y k v h (Ls K) s (Asn.blk y.gb 42 (bRow y) * (aRt gu gp k R * (Asn.vec 3 1 (.slice AH nH mH) nH (nums (lst h k)) * (Asn.vec 72 2 (.slice AD nD mD) nD (dty (lst s.d k)) * C)))) by unfold aB; ac_rfl)))
          obtain ⟨-, c1', c2', -⟩ := b_cells (S5.out.re (show _ = aB y k v h (Ls K) s (Asn.blk y.gb 42 (bRow y) * (aRt gu gp k R * (Asn.vec 3 1 (.slice AH nH mH) nH (nums (lst h k)) * (Asn.vec 72 2 (.slice AD nD mD) nD (dty (lst s.d k)) * C)))) by unfold aB; ac_rfl))
          rcases g1.out.disk with hdk | ⟨n1, j1, hdk, hf1, hs1, hj1, hsf⟩
          · rw [hdk, show ofL [] = (⟨#[]⟩ : ByteArray) from rfl] at HRe
            go_wp2_with fail
            refine HRe.out.mono ?_
            rintro e w' ⟨rfl, kq, rfl⟩
            have S6 := Lib.hid (S5.out.drewN kq)
            clear HRe S5 c1' c2'
            go_wp2_with fail
            go_roundw
            case rel => exact ⟨j + 1, a, b, by go_num, by go_num, by go_num, by omega, Lib.hid (by rw [lst_succ, List.length_append, hx, Ha.out]; rfl), Lib.hid (by rw [lst_succ, List.length_append, hd, Hb.out]; rfl), Lib.hid (S6.out.re (by unfold aB; ac_rfl))⟩
            case measure => simp [intOf]; omega
          · have hb2 : ((ofL (Nd.bytes n1)).toList == (⟨#[]⟩ : ByteArray).toList) = false := by rw [nil_str]; have h256 := Nd.bytes_fits hf1; cases hq : Nd.bytes n1 with
              | nil => rw [hq] at h256; cases h256
              | cons a l => rfl
            have hb3 : (ofL (Nd.bytes n1)).toList.isEmpty = false := by rw [Nd.ofL_toList]; have h256 := Nd.bytes_fits hf1; cases hq : Nd.bytes n1 with
              | nil => rw [hq] at h256; cases h256
              | cons a l => rfl
            have HS1 := Lib.hid hs1
            clear hs1
            rw [hdk] at HRe
            have HRd := Lib.hid (fun w => refRead_any (Nd.bytes n1) w (by rw [Nd.bytes_fits hf1]; decide))
            rw [Nd.read_bytes n1 hf1] at HRd
            unfold dV rN nodCells at HRd
            dsimp only at HRd
            clear hdk
            generalize ofL (Nd.bytes n1) = z at *
            go_wp2_with fail
            refine HRe.out.mono ?_
            rintro e w' ⟨rfl, kq, rfl⟩
            have S6 := Lib.hid (S5.out.drewN kq)
            clear HRe S5 c1' c2'
            go_wp2_with fail
            refine (HRd.out _).mono ?_
            rintro e w' ⟨v1, rfl, hX⟩
            obtain ⟨AV, cV, rfl⟩ := (show Own _ No _ (Asn.vec 83 3 v1 n1.list.length (cells3 n1.list) * Asn.emp) from hX.addEmp).vec.slice
            have S7 := Lib.hid (((S6.out.below hX.bel).alloc #[.int .i64 n1.tree, .int .i64 n1.level, .int .i64 n1.stamp, .bool n1.has, .string (ofL n1.high), .int .i64 n1.right, .slice AV n1.list.length cV] 31))
            clear hX S6 HRd hb2 hb3
            go_upto_region 22 with fail
            obtain ⟨g15, hgz⟩ : ∃ g, g = w'.heap.size := ⟨_, rfl⟩
            rw [← hgz] at S7 ⊢
            clear hgz
            generalize w'.alloc _ = w7 at *
            have F : Hid (∀ W, Own w0 No W (Asn.blk g15 31 #[.int .i64 n1.tree, .int .i64 n1.level, .int .i64 n1.stamp, .bool n1.has, .string (ofL n1.high), .int .i64 n1.right, .slice AV n1.list.length cV] * (aB y k v h (Ls K) s (Asn.blk y.gb 42 (bRow y) * (aRt gu gp k R * (Asn.vec 3 1 (.slice AH nH mH) nH (nums (lst h k)) * (Asn.vec 72 2 (.slice AD nD mD) nD (dty (lst s.d k)) * C)))))) → W.cell? ⟨y.gb, 2, none⟩ = some (.pointer (some ⟨y.gl, 0, none⟩)) ∧ W.cell? ⟨g15, 2, none⟩ = some (.int .i64 n1.stamp)) := Lib.hid fun W hW => ⟨(b_cells hW.right).2.2.1, (hW.has (Has.l (has_blk _ _ _))).cell 2⟩
            have S8 := Lib.hid (S7.out.re (show _ = Asn.blk g15 31 #[.int .i64 n1.tree, .int .i64 n1.level, .int .i64 n1.stamp, .bool n1.has, .string (ofL n1.high), .int .i64 n1.right, .slice AV n1.list.length cV] * (aB y k v h (Ls K) s (Asn.blk y.gb 42 (bRow y) * (aRt gu gp k R * (Asn.vec 3 1 (.slice AH nH mH) nH (nums (lst h k)) * (Asn.vec 72 2 (.slice AD nD mD) nD (dty (lst s.d k)) * C))))) by unfold aB; ac_rfl))
            have tA := F.out _ S8.out.drew
            have HSf := Lib.hid (bSafe y k v h s K j1 hj1 w0 _ _ (S8.out.drew.re (show _ = aB y k v h (Ls K) s (Asn.blk g15 31 #[.int .i64 n1.tree, .int .i64 n1.level, .int .i64 n1.stamp, .bool n1.has, .string (ofL n1.high), .int .i64 n1.right, .slice AV n1.list.length cV] * (Asn.blk y.gb 42 (bRow y) * (aRt gu gp k R * (Asn.vec 3 1 (.slice AH nH mH) nH (nums (lst h k)) * (Asn.vec 72 2 (.slice AD nD mD) nD (dty (lst s.d k)) * C))))) by unfold aB; ac_rfl)))
            rw [decide_eq_true hsf, ← HS1.out] at HSf
            clear S7
            go_region_held3 (fun W : World => W.cell? ⟨y.gb, 2, none⟩ = some (.pointer (some ⟨y.gl, 0, none⟩)) ∧ W.cell? ⟨g15, 2, none⟩ = some (.int .i64 n1.stamp)) (first | exact tA | exact tC) (first | (go_at_call 22; refine HSf.out.mono ?_; rintro e w9 ⟨rfl, hX⟩; have S9 := Lib.hid (hX.re (show _ = Asn.blk g15 31 #[.int .i64 n1.tree, .int .i64 n1.level, .int .i64 n1.stamp, .bool n1.has, .string (ofL n1.high), .int .i64 n1.right, .slice AV n1.list.length cV] * (aB y k v h (Ls K) s (Asn.blk y.gb 42 (bRow y) * (aRt gu gp k R * (Asn.vec 3 1 (.slice AH nH mH) nH (nums (lst h k)) * (Asn.vec 72 2 (.slice AD nD mD) nD (dty (lst s.d k)) * C))))) by unfold aB; ac_rfl)); have tC := F.out _ S9.out))
            have S10 := Lib.hid S9.out.right
            clear S8 S9 F tA tC HSf hX
            go_wp2_with fail
            go_roundw
            case rel => exact ⟨j + 1, a, b, by go_num, by go_num, by go_num, by omega, Lib.hid (by rw [lst_succ, List.length_append, hx, Ha.out]; rfl), Lib.hid (by rw [lst_succ, List.length_append, hd, Hb.out]; rfl), Lib.hid (S10.out.re (by unfold aB; ac_rfl))⟩
            case measure => simp [intOf]; omega
        | some yd =>
          rw [hd] at hfs
          dsimp only at hfs
          have hyp := G.out.good.okd j yd hd
          have hpos := tie_pos G.out j hlt yd hd
          have hbl := lst_lt s.d j k hlt yd hd
          have hyg := lst_get s.d j k hlt yd hd
          rw [← Hb.out, ← HD.out] at hbl
          rw [← Hb.out] at hyg
          rw [hfs] at HFi
          obtain ⟨fy, hfy⟩ : ∃ f, f = yd.first := ⟨_, rfl⟩
          rw [← hfy] at HFi hpos
          have HFY := Lib.hid hfy
          clear hfy
          have hpos2 : (0 : Int) < (fy : Int) := by omega
          have hbl2 : (b : Int) < (nD : Int) := by omega
          go_wp2_with fail
          refine HFi.out.mono ?_
          rintro e w4 ⟨rfl, hX⟩
          have S5 := Lib.hid hX
          clear hX S3 HFi t0 q9
          have hvd := S5.out.re (show _ = Asn.vec 72 2 (.slice AD nD mD) nD (dty (lst s.d k)) * (aRt gu gp k R * (Asn.vec 3 1 (.slice AH nH mH) nH (nums (lst h k)) * (aB y k v h (Ls K) s (Asn.blk y.gb 42 (bRow y) * C)))) by unfold aB; ac_rfl)
          obtain ⟨bd, rfl⟩ : ∃ b, AD = some ⟨b, 0, none⟩ := by
            rcases hvd.vec.forms with ⟨-, hz⟩ | ⟨g, cap, he, -⟩
            · omega
            · cases he; exact ⟨_, rfl⟩
          have d0 : w4.cell? ⟨bd, b * 2, none⟩ = some (.int .i64 yd.page) := hvd.vec.cell (j := b * 2 + 0) (by rw [dty_at' _ b yd hyg 0 (by decide)]; rfl)
          have d1 : w4.cell? ⟨bd, b * 2 + 1, none⟩ = some (.int .i64 yd.first) := hvd.vec.cell (by rw [dty_at' _ b yd hyg 1 (by decide)]; rfl)
          rw [hyp] at d0
          rw [← HFY.out] at d1
          clear hvd hyg hyp hfs
          go_upto_region 17 with fail
          clear d0 d1
          have HRe := Lib.hid (bRead y k v h (Ls K) s j hlt w0 _ _ (S5.out.re (show _ = aB y k v h (Ls K) s (Asn.blk y.gb 42 (bRow y) * (aRt gu gp k R * (Asn.vec 3 1 (.slice AH nH mH) nH (nums (lst h k)) * (Asn.vec 72 2 (.slice (some ⟨bd, 0, none⟩) nD mD) nD (dty (lst s.d k)) * C)))) by unfold aB; ac_rfl)))
          obtain ⟨-, c1', c2', -⟩ := b_cells (S5.out.re (show _ = aB y k v h (Ls K) s (Asn.blk y.gb 42 (bRow y) * (aRt gu gp k R * (Asn.vec 3 1 (.slice AH nH mH) nH (nums (lst h k)) * (Asn.vec 72 2 (.slice (some ⟨bd, 0, none⟩) nD mD) nD (dty (lst s.d k)) * C)))) by unfold aB; ac_rfl))
          rcases g1.out.disk with hdk | ⟨n1, j1, hdk, hf1, hs1, hj1, hsf⟩
          · rw [hdk, show ofL [] = (⟨#[]⟩ : ByteArray) from rfl] at HRe
            go_wp2_with fail
            refine HRe.out.mono ?_
            rintro e w' ⟨rfl, kq, rfl⟩
            have S6 := Lib.hid (S5.out.drewN kq)
            clear HRe S5 c1' c2'
            go_wp2_with fail
            go_roundw
            case rel => exact ⟨j + 1, a, b + 1, by go_num, by go_num, by go_num, by omega, Lib.hid (by rw [lst_succ, List.length_append, hx, Ha.out]; rfl), Lib.hid (by rw [lst_succ, List.length_append, hd, Hb.out]; rfl), Lib.hid (S6.out.re (by unfold aB; ac_rfl))⟩
            case measure => simp [intOf]; omega
          · have hb2 : ((ofL (Nd.bytes n1)).toList == (⟨#[]⟩ : ByteArray).toList) = false := by rw [nil_str]; have h256 := Nd.bytes_fits hf1; cases hq : Nd.bytes n1 with
              | nil => rw [hq] at h256; cases h256
              | cons a l => rfl
            have hb3 : (ofL (Nd.bytes n1)).toList.isEmpty = false := by rw [Nd.ofL_toList]; have h256 := Nd.bytes_fits hf1; cases hq : Nd.bytes n1 with
              | nil => rw [hq] at h256; cases h256
              | cons a l => rfl
            have HS1 := Lib.hid hs1
            clear hs1
            rw [hdk] at HRe
            have HRd := Lib.hid (fun w => refRead_any (Nd.bytes n1) w (by rw [Nd.bytes_fits hf1]; decide))
            rw [Nd.read_bytes n1 hf1] at HRd
            unfold dV rN nodCells at HRd
            dsimp only at HRd
            clear hdk
            generalize ofL (Nd.bytes n1) = z at *
            go_wp2_with fail
            refine HRe.out.mono ?_
            rintro e w' ⟨rfl, kq, rfl⟩
            have S6 := Lib.hid (S5.out.drewN kq)
            clear HRe S5 c1' c2'
            go_wp2_with fail
            refine (HRd.out _).mono ?_
            rintro e w' ⟨v1, rfl, hX⟩
            obtain ⟨AV, cV, rfl⟩ := (show Own _ No _ (Asn.vec 83 3 v1 n1.list.length (cells3 n1.list) * Asn.emp) from hX.addEmp).vec.slice
            have S7 := Lib.hid (((S6.out.below hX.bel).alloc #[.int .i64 n1.tree, .int .i64 n1.level, .int .i64 n1.stamp, .bool n1.has, .string (ofL n1.high), .int .i64 n1.right, .slice AV n1.list.length cV] 31))
            clear hX S6 HRd hb2 hb3
            go_upto_region 22 with fail
            obtain ⟨g15, hgz⟩ : ∃ g, g = w'.heap.size := ⟨_, rfl⟩
            rw [← hgz] at S7 ⊢
            clear hgz
            generalize w'.alloc _ = w7 at *
            have F : Hid (∀ W, Own w0 No W (Asn.blk g15 31 #[.int .i64 n1.tree, .int .i64 n1.level, .int .i64 n1.stamp, .bool n1.has, .string (ofL n1.high), .int .i64 n1.right, .slice AV n1.list.length cV] * (aB y k v h (Ls K) s (Asn.blk y.gb 42 (bRow y) * (aRt gu gp k R * (Asn.vec 3 1 (.slice AH nH mH) nH (nums (lst h k)) * (Asn.vec 72 2 (.slice (some ⟨bd, 0, none⟩) nD mD) nD (dty (lst s.d k)) * C)))))) → W.cell? ⟨y.gb, 2, none⟩ = some (.pointer (some ⟨y.gl, 0, none⟩)) ∧ W.cell? ⟨g15, 2, none⟩ = some (.int .i64 n1.stamp)) := Lib.hid fun W hW => ⟨(b_cells hW.right).2.2.1, (hW.has (Has.l (has_blk _ _ _))).cell 2⟩
            have S8 := Lib.hid (S7.out.re (show _ = Asn.blk g15 31 #[.int .i64 n1.tree, .int .i64 n1.level, .int .i64 n1.stamp, .bool n1.has, .string (ofL n1.high), .int .i64 n1.right, .slice AV n1.list.length cV] * (aB y k v h (Ls K) s (Asn.blk y.gb 42 (bRow y) * (aRt gu gp k R * (Asn.vec 3 1 (.slice AH nH mH) nH (nums (lst h k)) * (Asn.vec 72 2 (.slice (some ⟨bd, 0, none⟩) nD mD) nD (dty (lst s.d k)) * C))))) by unfold aB; ac_rfl))
            have tA := F.out _ S8.out.drew
            have HSf := Lib.hid (bSafe y k v h s K j1 hj1 w0 _ _ (S8.out.drew.re (show _ = aB y k v h (Ls K) s (Asn.blk g15 31 #[.int .i64 n1.tree, .int .i64 n1.level, .int .i64 n1.stamp, .bool n1.has, .string (ofL n1.high), .int .i64 n1.right, .slice AV n1.list.length cV] * (Asn.blk y.gb 42 (bRow y) * (aRt gu gp k R * (Asn.vec 3 1 (.slice AH nH mH) nH (nums (lst h k)) * (Asn.vec 72 2 (.slice (some ⟨bd, 0, none⟩) nD mD) nD (dty (lst s.d k)) * C))))) by unfold aB; ac_rfl)))
            rw [decide_eq_true hsf, ← HS1.out] at HSf
            clear S7
            go_region_held3 (fun W : World => W.cell? ⟨y.gb, 2, none⟩ = some (.pointer (some ⟨y.gl, 0, none⟩)) ∧ W.cell? ⟨g15, 2, none⟩ = some (.int .i64 n1.stamp)) (first | exact tA | exact tC) (first | (go_at_call 22; refine HSf.out.mono ?_; rintro e w9 ⟨rfl, hX⟩; have S9 := Lib.hid (hX.re (show _ = Asn.blk g15 31 #[.int .i64 n1.tree, .int .i64 n1.level, .int .i64 n1.stamp, .bool n1.has, .string (ofL n1.high), .int .i64 n1.right, .slice AV n1.list.length cV] * (aB y k v h (Ls K) s (Asn.blk y.gb 42 (bRow y) * (aRt gu gp k R * (Asn.vec 3 1 (.slice AH nH mH) nH (nums (lst h k)) * (Asn.vec 72 2 (.slice (some ⟨bd, 0, none⟩) nD mD) nD (dty (lst s.d k)) * C))))) by unfold aB; ac_rfl)); have tC := F.out _ S9.out))
            have S10 := Lib.hid S9.out.right
            clear S8 S9 F tA tC HSf hX
            go_wp2_with fail
            go_roundw
            case rel => exact ⟨j + 1, a, b + 1, by go_num, by go_num, by go_num, by omega, Lib.hid (by rw [lst_succ, List.length_append, hx, Ha.out]; rfl), Lib.hid (by rw [lst_succ, List.length_append, hd, Hb.out]; rfl), Lib.hid (S10.out.re (by unfold aB; ac_rfl))⟩
            case measure => simp [intOf]; omega
      | some x =>
        rw [hx] at q9
        dsimp only [Option.isSome] at q9
        have hxp := G.out.good.oks j x hx
        have hal := lst_lt h j k hlt x hx
        have hxg := lst_get h j k hlt x hx
        rw [← Ha.out, ← HH.out] at hal
        rw [← Ha.out] at hxg
        have hal2 : (a : Int) < (nH : Int) := by omega
        have hvh := S3.out.re (show _ = Asn.vec 3 1 (.slice AH nH mH) nH (nums (lst h k)) * (aRt gu gp k R * (Asn.vec 72 2 (.slice AD nD mD) nD (dty (lst s.d k)) * (aB y k v h (Ls K) s (Asn.blk y.gb 42 (bRow y) * C)))) by unfold aB; ac_rfl)
        obtain ⟨bh, rfl⟩ : ∃ b, AH = some ⟨b, 0, none⟩ := by
          rcases hvh.vec.forms with ⟨-, hz⟩ | ⟨g, cap, he, -⟩
          · omega
          · cases he; exact ⟨_, rfl⟩
        have h0 : wr.cell? ⟨bh, a, none⟩ = some (.int .i64 x.page) := hvh.vec.cell (nums_at _ a x hxg)
        rw [hxp] at h0
        clear hvh hxg hxp
        cases hd : s.d j with
        | none =>
          rw [hd] at hfs
          dsimp only at hfs
          rw [hfs] at HFi
          go_wp2_with fail
          refine HFi.out.mono ?_
          rintro e w4 ⟨rfl, hX⟩
          have S5 := Lib.hid hX
          clear hX S3 HFi t0 q9
          have HRe := Lib.hid (bRead y k v h (Ls K) s j hlt w0 _ _ (S5.out.re (show _ = aB y k v h (Ls K) s (Asn.blk y.gb 42 (bRow y) * (aRt gu gp k R * (Asn.vec 3 1 (.slice (some ⟨bh, 0, none⟩) nH mH) nH (nums (lst h k)) * (Asn.vec 72 2 (.slice AD nD mD) nD (dty (lst s.d k)) * C)))) by unfold aB; ac_rfl)))
          obtain ⟨-, c1', c2', -⟩ := b_cells (S5.out.re (show _ = aB y k v h (Ls K) s (Asn.blk y.gb 42 (bRow y) * (aRt gu gp k R * (Asn.vec 3 1 (.slice (some ⟨bh, 0, none⟩) nH mH) nH (nums (lst h k)) * (Asn.vec 72 2 (.slice AD nD mD) nD (dty (lst s.d k)) * C)))) by unfold aB; ac_rfl))
          rcases g1.out.disk with hdk | ⟨n1, j1, hdk, hf1, hs1, hj1, hsf⟩
          · rw [hdk, show ofL [] = (⟨#[]⟩ : ByteArray) from rfl] at HRe
            go_wp2_with fail
            refine HRe.out.mono ?_
            rintro e w' ⟨rfl, kq, rfl⟩
            have S6 := Lib.hid (S5.out.drewN kq)
            clear HRe S5 c1' c2'
            go_wp2_with fail
            go_roundw
            case rel => exact ⟨j + 1, a + 1, b, by go_num, by go_num, by go_num, by omega, Lib.hid (by rw [lst_succ, List.length_append, hx, Ha.out]; rfl), Lib.hid (by rw [lst_succ, List.length_append, hd, Hb.out]; rfl), Lib.hid (S6.out.re (by unfold aB; ac_rfl))⟩
            case measure => simp [intOf]; omega
          · have hb2 : ((ofL (Nd.bytes n1)).toList == (⟨#[]⟩ : ByteArray).toList) = false := by rw [nil_str]; have h256 := Nd.bytes_fits hf1; cases hq : Nd.bytes n1 with
              | nil => rw [hq] at h256; cases h256
              | cons a l => rfl
            have hb3 : (ofL (Nd.bytes n1)).toList.isEmpty = false := by rw [Nd.ofL_toList]; have h256 := Nd.bytes_fits hf1; cases hq : Nd.bytes n1 with
              | nil => rw [hq] at h256; cases h256
              | cons a l => rfl
            have HS1 := Lib.hid hs1
            clear hs1
            rw [hdk] at HRe
            have HRd := Lib.hid (fun w => refRead_any (Nd.bytes n1) w (by rw [Nd.bytes_fits hf1]; decide))
            rw [Nd.read_bytes n1 hf1] at HRd
            unfold dV rN nodCells at HRd
            dsimp only at HRd
            clear hdk
            generalize ofL (Nd.bytes n1) = z at *
            go_wp2_with fail
            refine HRe.out.mono ?_
            rintro e w' ⟨rfl, kq, rfl⟩
            have S6 := Lib.hid (S5.out.drewN kq)
            clear HRe S5 c1' c2'
            go_wp2_with fail
            refine (HRd.out _).mono ?_
            rintro e w' ⟨v1, rfl, hX⟩
            obtain ⟨AV, cV, rfl⟩ := (show Own _ No _ (Asn.vec 83 3 v1 n1.list.length (cells3 n1.list) * Asn.emp) from hX.addEmp).vec.slice
            have S7 := Lib.hid (((S6.out.below hX.bel).alloc #[.int .i64 n1.tree, .int .i64 n1.level, .int .i64 n1.stamp, .bool n1.has, .string (ofL n1.high), .int .i64 n1.right, .slice AV n1.list.length cV] 31))
            clear hX S6 HRd hb2 hb3
            go_upto_region 22 with fail
            obtain ⟨g15, hgz⟩ : ∃ g, g = w'.heap.size := ⟨_, rfl⟩
            rw [← hgz] at S7 ⊢
            clear hgz
            generalize w'.alloc _ = w7 at *
            have F : Hid (∀ W, Own w0 No W (Asn.blk g15 31 #[.int .i64 n1.tree, .int .i64 n1.level, .int .i64 n1.stamp, .bool n1.has, .string (ofL n1.high), .int .i64 n1.right, .slice AV n1.list.length cV] * (aB y k v h (Ls K) s (Asn.blk y.gb 42 (bRow y) * (aRt gu gp k R * (Asn.vec 3 1 (.slice (some ⟨bh, 0, none⟩) nH mH) nH (nums (lst h k)) * (Asn.vec 72 2 (.slice AD nD mD) nD (dty (lst s.d k)) * C)))))) → W.cell? ⟨y.gb, 2, none⟩ = some (.pointer (some ⟨y.gl, 0, none⟩)) ∧ W.cell? ⟨g15, 2, none⟩ = some (.int .i64 n1.stamp)) := Lib.hid fun W hW => ⟨(b_cells hW.right).2.2.1, (hW.has (Has.l (has_blk _ _ _))).cell 2⟩
            have S8 := Lib.hid (S7.out.re (show _ = Asn.blk g15 31 #[.int .i64 n1.tree, .int .i64 n1.level, .int .i64 n1.stamp, .bool n1.has, .string (ofL n1.high), .int .i64 n1.right, .slice AV n1.list.length cV] * (aB y k v h (Ls K) s (Asn.blk y.gb 42 (bRow y) * (aRt gu gp k R * (Asn.vec 3 1 (.slice (some ⟨bh, 0, none⟩) nH mH) nH (nums (lst h k)) * (Asn.vec 72 2 (.slice AD nD mD) nD (dty (lst s.d k)) * C))))) by unfold aB; ac_rfl))
            have tA := F.out _ S8.out.drew
            have HSf := Lib.hid (bSafe y k v h s K j1 hj1 w0 _ _ (S8.out.drew.re (show _ = aB y k v h (Ls K) s (Asn.blk g15 31 #[.int .i64 n1.tree, .int .i64 n1.level, .int .i64 n1.stamp, .bool n1.has, .string (ofL n1.high), .int .i64 n1.right, .slice AV n1.list.length cV] * (Asn.blk y.gb 42 (bRow y) * (aRt gu gp k R * (Asn.vec 3 1 (.slice (some ⟨bh, 0, none⟩) nH mH) nH (nums (lst h k)) * (Asn.vec 72 2 (.slice AD nD mD) nD (dty (lst s.d k)) * C))))) by unfold aB; ac_rfl)))
            rw [decide_eq_true hsf, ← HS1.out] at HSf
            clear S7
            go_region_held3 (fun W : World => W.cell? ⟨y.gb, 2, none⟩ = some (.pointer (some ⟨y.gl, 0, none⟩)) ∧ W.cell? ⟨g15, 2, none⟩ = some (.int .i64 n1.stamp)) (first | exact tA | exact tC) (first | (go_at_call 22; refine HSf.out.mono ?_; rintro e w9 ⟨rfl, hX⟩; have S9 := Lib.hid (hX.re (show _ = Asn.blk g15 31 #[.int .i64 n1.tree, .int .i64 n1.level, .int .i64 n1.stamp, .bool n1.has, .string (ofL n1.high), .int .i64 n1.right, .slice AV n1.list.length cV] * (aB y k v h (Ls K) s (Asn.blk y.gb 42 (bRow y) * (aRt gu gp k R * (Asn.vec 3 1 (.slice (some ⟨bh, 0, none⟩) nH mH) nH (nums (lst h k)) * (Asn.vec 72 2 (.slice AD nD mD) nD (dty (lst s.d k)) * C))))) by unfold aB; ac_rfl)); have tC := F.out _ S9.out))
            have S10 := Lib.hid S9.out.right
            clear S8 S9 F tA tC HSf hX
            go_wp2_with fail
            go_roundw
            case rel => exact ⟨j + 1, a + 1, b, by go_num, by go_num, by go_num, by omega, Lib.hid (by rw [lst_succ, List.length_append, hx, Ha.out]; rfl), Lib.hid (by rw [lst_succ, List.length_append, hd, Hb.out]; rfl), Lib.hid (S10.out.re (by unfold aB; ac_rfl))⟩
            case measure => simp [intOf]; omega
        | some yd =>
          rw [hd] at hfs
          dsimp only at hfs
          have hyp := G.out.good.okd j yd hd
          have hpos := tie_pos G.out j hlt yd hd
          have hbl := lst_lt s.d j k hlt yd hd
          have hyg := lst_get s.d j k hlt yd hd
          rw [← Hb.out, ← HD.out] at hbl
          rw [← Hb.out] at hyg
          rw [hfs] at HFi
          obtain ⟨fy, hfy⟩ : ∃ f, f = yd.first := ⟨_, rfl⟩
          rw [← hfy] at HFi hpos
          have HFY := Lib.hid hfy
          clear hfy
          have hpos2 : (0 : Int) < (fy : Int) := by omega
          have hbl2 : (b : Int) < (nD : Int) := by omega
          go_wp2_with fail
          refine HFi.out.mono ?_
          rintro e w4 ⟨rfl, hX⟩
          have S5 := Lib.hid hX
          clear hX S3 HFi t0 q9
          have hvd := S5.out.re (show _ = Asn.vec 72 2 (.slice AD nD mD) nD (dty (lst s.d k)) * (aRt gu gp k R * (Asn.vec 3 1 (.slice (some ⟨bh, 0, none⟩) nH mH) nH (nums (lst h k)) * (aB y k v h (Ls K) s (Asn.blk y.gb 42 (bRow y) * C)))) by unfold aB; ac_rfl)
          obtain ⟨bd, rfl⟩ : ∃ b, AD = some ⟨b, 0, none⟩ := by
            rcases hvd.vec.forms with ⟨-, hz⟩ | ⟨g, cap, he, -⟩
            · omega
            · cases he; exact ⟨_, rfl⟩
          have d0 : w4.cell? ⟨bd, b * 2, none⟩ = some (.int .i64 yd.page) := hvd.vec.cell (j := b * 2 + 0) (by rw [dty_at' _ b yd hyg 0 (by decide)]; rfl)
          have d1 : w4.cell? ⟨bd, b * 2 + 1, none⟩ = some (.int .i64 yd.first) := hvd.vec.cell (by rw [dty_at' _ b yd hyg 1 (by decide)]; rfl)
          rw [hyp] at d0
          rw [← HFY.out] at d1
          clear hvd hyg hyp hfs
          go_upto_region 17 with fail
          clear d0 d1
          have HRe := Lib.hid (bRead y k v h (Ls K) s j hlt w0 _ _ (S5.out.re (show _ = aB y k v h (Ls K) s (Asn.blk y.gb 42 (bRow y) * (aRt gu gp k R * (Asn.vec 3 1 (.slice (some ⟨bh, 0, none⟩) nH mH) nH (nums (lst h k)) * (Asn.vec 72 2 (.slice (some ⟨bd, 0, none⟩) nD mD) nD (dty (lst s.d k)) * C)))) by unfold aB; ac_rfl)))
          obtain ⟨-, c1', c2', -⟩ := b_cells (S5.out.re (show _ = aB y k v h (Ls K) s (Asn.blk y.gb 42 (bRow y) * (aRt gu gp k R * (Asn.vec 3 1 (.slice (some ⟨bh, 0, none⟩) nH mH) nH (nums (lst h k)) * (Asn.vec 72 2 (.slice (some ⟨bd, 0, none⟩) nD mD) nD (dty (lst s.d k)) * C)))) by unfold aB; ac_rfl))
          rcases g1.out.disk with hdk | ⟨n1, j1, hdk, hf1, hs1, hj1, hsf⟩
          · rw [hdk, show ofL [] = (⟨#[]⟩ : ByteArray) from rfl] at HRe
            go_wp2_with fail
            refine HRe.out.mono ?_
            rintro e w' ⟨rfl, kq, rfl⟩
            have S6 := Lib.hid (S5.out.drewN kq)
            clear HRe S5 c1' c2'
            go_wp2_with fail
            go_roundw
            case rel => exact ⟨j + 1, a + 1, b + 1, by go_num, by go_num, by go_num, by omega, Lib.hid (by rw [lst_succ, List.length_append, hx, Ha.out]; rfl), Lib.hid (by rw [lst_succ, List.length_append, hd, Hb.out]; rfl), Lib.hid (S6.out.re (by unfold aB; ac_rfl))⟩
            case measure => simp [intOf]; omega
          · have hb2 : ((ofL (Nd.bytes n1)).toList == (⟨#[]⟩ : ByteArray).toList) = false := by rw [nil_str]; have h256 := Nd.bytes_fits hf1; cases hq : Nd.bytes n1 with
              | nil => rw [hq] at h256; cases h256
              | cons a l => rfl
            have hb3 : (ofL (Nd.bytes n1)).toList.isEmpty = false := by rw [Nd.ofL_toList]; have h256 := Nd.bytes_fits hf1; cases hq : Nd.bytes n1 with
              | nil => rw [hq] at h256; cases h256
              | cons a l => rfl
            have HS1 := Lib.hid hs1
            clear hs1
            rw [hdk] at HRe
            have HRd := Lib.hid (fun w => refRead_any (Nd.bytes n1) w (by rw [Nd.bytes_fits hf1]; decide))
            rw [Nd.read_bytes n1 hf1] at HRd
            unfold dV rN nodCells at HRd
            dsimp only at HRd
            clear hdk
            generalize ofL (Nd.bytes n1) = z at *
            go_wp2_with fail
            refine HRe.out.mono ?_
            rintro e w' ⟨rfl, kq, rfl⟩
            have S6 := Lib.hid (S5.out.drewN kq)
            clear HRe S5 c1' c2'
            go_wp2_with fail
            refine (HRd.out _).mono ?_
            rintro e w' ⟨v1, rfl, hX⟩
            obtain ⟨AV, cV, rfl⟩ := (show Own _ No _ (Asn.vec 83 3 v1 n1.list.length (cells3 n1.list) * Asn.emp) from hX.addEmp).vec.slice
            have S7 := Lib.hid (((S6.out.below hX.bel).alloc #[.int .i64 n1.tree, .int .i64 n1.level, .int .i64 n1.stamp, .bool n1.has, .string (ofL n1.high), .int .i64 n1.right, .slice AV n1.list.length cV] 31))
            clear hX S6 HRd hb2 hb3
            go_upto_region 22 with fail
            obtain ⟨g15, hgz⟩ : ∃ g, g = w'.heap.size := ⟨_, rfl⟩
            rw [← hgz] at S7 ⊢
            clear hgz
            generalize w'.alloc _ = w7 at *
            have F : Hid (∀ W, Own w0 No W (Asn.blk g15 31 #[.int .i64 n1.tree, .int .i64 n1.level, .int .i64 n1.stamp, .bool n1.has, .string (ofL n1.high), .int .i64 n1.right, .slice AV n1.list.length cV] * (aB y k v h (Ls K) s (Asn.blk y.gb 42 (bRow y) * (aRt gu gp k R * (Asn.vec 3 1 (.slice (some ⟨bh, 0, none⟩) nH mH) nH (nums (lst h k)) * (Asn.vec 72 2 (.slice (some ⟨bd, 0, none⟩) nD mD) nD (dty (lst s.d k)) * C)))))) → W.cell? ⟨y.gb, 2, none⟩ = some (.pointer (some ⟨y.gl, 0, none⟩)) ∧ W.cell? ⟨g15, 2, none⟩ = some (.int .i64 n1.stamp)) := Lib.hid fun W hW => ⟨(b_cells hW.right).2.2.1, (hW.has (Has.l (has_blk _ _ _))).cell 2⟩
            have S8 := Lib.hid (S7.out.re (show _ = Asn.blk g15 31 #[.int .i64 n1.tree, .int .i64 n1.level, .int .i64 n1.stamp, .bool n1.has, .string (ofL n1.high), .int .i64 n1.right, .slice AV n1.list.length cV] * (aB y k v h (Ls K) s (Asn.blk y.gb 42 (bRow y) * (aRt gu gp k R * (Asn.vec 3 1 (.slice (some ⟨bh, 0, none⟩) nH mH) nH (nums (lst h k)) * (Asn.vec 72 2 (.slice (some ⟨bd, 0, none⟩) nD mD) nD (dty (lst s.d k)) * C))))) by unfold aB; ac_rfl))
            have tA := F.out _ S8.out.drew
            have HSf := Lib.hid (bSafe y k v h s K j1 hj1 w0 _ _ (S8.out.drew.re (show _ = aB y k v h (Ls K) s (Asn.blk g15 31 #[.int .i64 n1.tree, .int .i64 n1.level, .int .i64 n1.stamp, .bool n1.has, .string (ofL n1.high), .int .i64 n1.right, .slice AV n1.list.length cV] * (Asn.blk y.gb 42 (bRow y) * (aRt gu gp k R * (Asn.vec 3 1 (.slice (some ⟨bh, 0, none⟩) nH mH) nH (nums (lst h k)) * (Asn.vec 72 2 (.slice (some ⟨bd, 0, none⟩) nD mD) nD (dty (lst s.d k)) * C))))) by unfold aB; ac_rfl)))
            rw [decide_eq_true hsf, ← HS1.out] at HSf
            clear S7
            go_region_held3 (fun W : World => W.cell? ⟨y.gb, 2, none⟩ = some (.pointer (some ⟨y.gl, 0, none⟩)) ∧ W.cell? ⟨g15, 2, none⟩ = some (.int .i64 n1.stamp)) (first | exact tA | exact tC) (first | (go_at_call 22; refine HSf.out.mono ?_; rintro e w9 ⟨rfl, hX⟩; have S9 := Lib.hid (hX.re (show _ = Asn.blk g15 31 #[.int .i64 n1.tree, .int .i64 n1.level, .int .i64 n1.stamp, .bool n1.has, .string (ofL n1.high), .int .i64 n1.right, .slice AV n1.list.length cV] * (aB y k v h (Ls K) s (Asn.blk y.gb 42 (bRow y) * (aRt gu gp k R * (Asn.vec 3 1 (.slice (some ⟨bh, 0, none⟩) nH mH) nH (nums (lst h k)) * (Asn.vec 72 2 (.slice (some ⟨bd, 0, none⟩) nD mD) nD (dty (lst s.d k)) * C))))) by unfold aB; ac_rfl)); have tC := F.out _ S9.out))
            have S10 := Lib.hid S9.out.right
            clear S8 S9 F tA tC HSf hX
            go_wp2_with fail
            go_roundw
            case rel => exact ⟨j + 1, a + 1, b + 1, by go_num, by go_num, by go_num, by omega, Lib.hid (by rw [lst_succ, List.length_append, hx, Ha.out]; rfl), Lib.hid (by rw [lst_succ, List.length_append, hd, Hb.out]; rfl), Lib.hid (S10.out.re (by unfold aB; ac_rfl))⟩
            case measure => simp [intOf]; omega
    · obtain rfl : j = k := by omega
      have ha : a = nH := by rw [Ha.out, HH.out]
      have hb : b = nD := by rw [Hb.out, HD.out]
      subst ha hb
      go_wp2_with fail
      go_returns
      exact ⟨rfl, S2.out.right.right⟩
end Go.Proofs.YtapdpdhibpblgaaGreatDoor.Tr
