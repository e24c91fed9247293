/- What is to change: Seek. -/
import Derived.Test.YteiiogaopgfpfaaBkAc
namespace Go.Proofs.Yteiiogaopgfpfaa.Bk
open Go.ChangeShapes Go.WideShapes Go.ChangeAt Go.RowKit Go.PlainAid Aid Nt Nd Tr
set_option linter.unusedVariables false
set_option linter.unusedSimpArgs false
set_option linter.unusedSectionVars false
/-- The pages that Seek answers. -/
def pagesR (S : Sf) (root level : Int) (key : By) : List Int := (seek S 256 root level key).2.2.map fun x => x.1
theorem sk_bad (S : Sf) (level : Int) (key : By) : ∀ (f : Nat) (v : Vi) (P : List (Int × Nod)), (sk S level key f v P).2.1 ≠ 0 → (sk S level key f v P).2.2 = []
  | 0, v, P, h => rfl
  | f + 1, v, P, h => by
    unfold sk at h ⊢
    split
    · rename_i h1
      rw [if_pos h1] at h
      dsimp only at h ⊢
      split
      · rename_i h2
        rw [if_pos h2] at h
        split
        · rename_i h3; rw [if_pos h3] at h; exact absurd rfl h
        · rename_i h3
          rw [if_neg h3] at h
          split
          · rfl
          · rename_i h4
            rw [if_neg h4] at h
            exact sk_bad S level key f _ _ h
      · rfl
    · rfl
theorem sk_len (S : Sf) (level : Int) (key : By) : ∀ (f : Nat) (v : Vi) (P : List (Int × Nod)), (sk S level key f v P).2.2.length ≤ P.length + v.left + 1
  | 0, v, P => by show 0 ≤ _; omega
  | f + 1, v, P => by
    unfold sk
    split
    · dsimp only
      have h1 := rgt_left S key v.left v.pg v.nd
      split
      · split
        · simp
        · split
          · show 0 ≤ _; omega
          · generalize lastLe (rgt S key v.left v.pg v.nd).nd.list key (rgt S key v.left v.pg v.nd).nd.list.length = i
            by_cases hb : (blw S (rgt S key v.left v.pg v.nd).left (rgt S key v.left v.pg v.nd).nd i).err = 0
            · have h2 := blw_less S _ (rgt S key v.left v.pg v.nd).nd i hb
              have h3 := sk_len S level key f (blw S (rgt S key v.left v.pg v.nd).left (rgt S key v.left v.pg v.nd).nd i) (P ++ [((rgt S key v.left v.pg v.nd).pg, (rgt S key v.left v.pg v.nd).nd)])
              rw [List.length_append, List.length_singleton] at h3
              omega
            · cases f with
              | zero => show 0 ≤ _; omega
              | succ f => rw [sk_err S level key f _ _ hb]; show 0 ≤ _; omega
      · show 0 ≤ _; omega
    · show 0 ≤ _; omega
theorem seek_len (S : Sf) (root level : Int) (key : By) : (seek S 256 root level key).2.2.length ≤ 257 := by
  have h1 := sk_len S level key 300 (vis S 256 root) []
  have h2 := vis_left S 256 root
  unfold seek
  simp only [List.length_nil] at h1
  omega
def ints (l : List Int) : List Value := l.map fun p => .int .i64 p
theorem aLs_slice {w0 w : World} {O0 : Nat → Prop} : ∀ (L : List Sp) {C : Asn}, Own w0 O0 w (aLs L * C) → ∀ x, x ∈ L → ∃ A c, x.v = .slice A x.nd.list.length c
  | [], _, _, x, hx => by cases hx
  | y :: L, C, h, x, hx => by
    have h1 : Own w0 O0 w (aEnts y.nd y.v * (aLs L * C)) := by
      have h2 : Own w0 O0 w ((aEnts y.nd y.v * aLs L) * C) := h
      exact h2.re (by ac_rfl)
    rcases List.mem_cons.1 hx with rfl | hx
    · exact (show Own w0 O0 w (Asn.vec 44 3 x.v x.nd.list.length (cells3 x.nd.list) * _) from h1).vec.slice
    · exact aLs_slice L h1.right x hx
theorem infoInt : (Try.prog.info? 3).map (fun i => (i.zero, i.size, i.bytes)) = some (some (.int .i64 0), 1, 8) := by kernel_rfl
section
variable (gs : Nat) (S : Sf) (V : Nat → Value)
set_option maxRecDepth 100000 in
set_option maxHeartbeats 16000000 in
theorem Seek_any (hs : Sm S) (hv : LvOk S) (root level : Int) (key : By) (w0 w : World) (C : Asn) (hS : Own w0 No w (aSf gs S V * C)) :
    Calls Try.prog 20 #[pgs gs, .int .i64 root, .int .i64 level, .string (ofL key)] w fun e w' => ∃ v, e = .returned (.tuple #[v, .int .i64 (seek S 256 root level key).2.1]) ∧
      Own w0 No w' (Asn.vec 3 1 v (pagesR S root level key).length (ints (pagesR S root level key)) * (aSf gs S V * C)) := by
  have S0 := Lib.hid ((hS.alloc #[pgs gs, .int .i64 0] 93).re (show _ = aG w.heap.size gs 256 * (aSf gs S V * C) by unfold aG; rw [show (256 : Int) - ((256 : Nat) : Int) = 0 from rfl]))
  have HSk := Lib.hid (fun gg W (h : Own w0 No W (aG gg gs 256 * (aSf gs S V * C))) => seek_any gs S V hs.small hv gg 256 (Nat.le_refl _) root level key w0 W C h)
  have HB : Hid ((seek S 256 root level key).2.1 ≠ 0 → (seek S 256 root level key).2.2 = []) := Lib.hid (sk_bad S level key 300 (vis S 256 root) [])
  have hsl257 := seek_len S root level key
  unfold pagesR
  generalize seek S 256 root level key = r at *
  obtain ⟨r1, err, path⟩ := r
  dsimp only at *
  clear hS
  unfold pgs sPtr at *
  go_enter Try.func20, Try.ntmps20
  go_upto_region 2 with fail
  obtain ⟨g10, hgz⟩ : ∃ g, g = w.heap.size := ⟨_, rfl⟩
  rw [← hgz] at S0 ⊢
  clear hgz
  generalize World.alloc _ _ = w1 at *
  go_wp2_with fail
  refine (HSk.out _ _ S0.out).mono ?_
  rintro rr w2 ⟨pv, L, rfl, hpl, hX⟩
  clear HSk S0
  by_cases he : err = 0
  · subst he
    subst hpl
    have hsl := aLs_slice L (hX.re (show _ = aLs L * (Asn.vec 98 8 pv L.length (spL L) * (aG g10 gs r1 * (aSf gs S V * C))) by ac_rfl))
    have hlen : ((plain L).map fun x => x.1).length = L.length := by simp [plain]
    have hge : ∀ i x, L[i]? = some x → ((plain L).map fun x => x.1).take (i + 1) = ((plain L).map fun x => x.1).take i ++ [x.pg] := fun i x h => by
      have : ((plain L).map fun x => x.1)[i]? = some x.pg := by simp [plain, h]
      rw [List.take_add_one, this]; rfl
    have HSL := Lib.hid hsl
    have HGE := Lib.hid hge
    have hpv := hX.vec.slice
    obtain ⟨Ap, cp, rfl⟩ := hpv
    have S1 := Lib.hid ((hX.nilVec 3 1).re (show _ = Asn.vec 3 1 (.slice none 0 0) 0 (ints (((plain L).map fun x => x.1).take 0)) * (Asn.vec 98 8 (.slice Ap L.length cp) L.length (spL L) * (aLs L * (aG g10 gs r1 * (aSf gs S V * C)))) by rfl))
    have HLN := Lib.hid hlen
    obtain ⟨P, hP⟩ : ∃ P, P = ((plain L).map fun x => x.1) := ⟨_, rfl⟩
    rw [← hP] at HLN HGE S1
    have HPP := Lib.hid hP
    clear hP
    have hm2 : L.length ≤ 257 := by have := hsl257; unfold plain at this; rw [List.length_map] at this; exact this
    clear hsl257
    have hm : L.length ≤ 9223372036854775807 := by
      rcases hX.vec.forms with ⟨-, hz⟩ | ⟨g, cap, h, -, h1, h2⟩
      · omega
      · unfold maxLen at h2; omega
    clear hX hsl hge hlen
    obtain ⟨N, hN⟩ : ∃ N, N = L.length := ⟨_, rfl⟩
    rw [← hN] at S1 hm hm2 ⊢
    have HNN := Lib.hid hN
    clear hN
    go_wp2_with fail
    go_loopw [13, 30] (fun p13 p30 wr => ∃ i : Nat, p30 = .int .i64 i ∧ i ≤ N ∧ Hid (Own w0 No wr (Asn.vec 3 1 p13 i (ints (P.take i)) * (Asn.vec 98 8 (.slice Ap N cp) N (spL L) * (aLs L * (aG g10 gs r1 * (aSf gs S V * C))))))) (fun _ p30 _ => N + 1 - (intOf p30).toNat)
    case atStart => exact ⟨0, rfl, Nat.zero_le _, S1⟩
    case round =>
      clear S1
      obtain ⟨i, rfl, hi, S1⟩ := hrel
      by_cases hlt : i < N
      · obtain ⟨x, hx⟩ : ∃ x, L[i]? = some x := ⟨L[i]'(by rw [← HNN.out]; exact hlt), List.getElem?_eq_getElem _⟩
        obtain ⟨A, c, hxv⟩ := HSL.out x (List.mem_of_getElem? hx)
        have hpg := HGE.out i x hx
        have hiN : (i : Int) < (N : Int) := by omega
        obtain ⟨ba, rfl⟩ : ∃ b, Ap = some ⟨b, 0, none⟩ := by
          rcases S1.out.right.vec.forms with ⟨-, hz⟩ | ⟨g, cap, h, -⟩
          · omega
          · cases h; exact ⟨_, rfl⟩
        have hc := fun j (hj : j < 8) u hu => S1.out.right.vec.cell (j := i * 8 + j) (u := u) ((spL_at L i j x hx hj).trans hu)
        unfold spotC at hc
        rw [hxv] at hc
        have c0 : wr.cell? ⟨ba, i * 8, none⟩ = some (.int .i64 x.pg) := hc 0 (by decide) _ rfl
        have c1 := hc 1 (by decide) _ rfl
        have c2 := hc 2 (by decide) _ rfl
        have c3 := hc 3 (by decide) _ rfl
        have c4 := hc 4 (by decide) _ rfl
        have c5 := hc 5 (by decide) _ rfl
        have c6 := hc 6 (by decide) _ rfl
        have c7 := hc 7 (by decide) _ rfl
        obtain ⟨pvv, hpvv⟩ : ∃ q, q = u13 := ⟨_, rfl⟩
        rw [← hpvv] at S1 ⊢
        clear hpvv
        have S2 := Lib.hid (S1.out.alloc #[.int .i64 x.pg, .int .i64 x.nd.tree, .int .i64 x.nd.level, .int .i64 x.nd.stamp, .bool x.nd.has, .string (ofL x.nd.high), .int .i64 x.nd.right, .slice A x.nd.list.length c] 98)
        clear hc S1 hx hxv
        go_upto_region 9 with fail
        obtain ⟨g15, hgz⟩ : ∃ g, g = wr.heap.size := ⟨_, rfl⟩
        rw [← hgz] at S2 ⊢
        clear hgz c0 c1 c2 c3 c4 c5 c6 c7
        generalize World.alloc _ _ = w3 at *
        have k0 := (S2.out.has (Has.l (has_blk _ _ _))).cell 0
        have S3 := Lib.hid ((S2.out.right.alloc #[.int .i64 x.pg] 3).right)
        have CX : Hid (Src Try.prog 1 50 (.slice (some ⟨w3.heap.size, 0, none⟩) 1 1) 1 [.int .i64 x.pg] (w3.alloc (.cells #[.int .i64 x.pg] 3))) := Lib.hid (src_blk Try.underlying50 (Blk.new w3 #[.int .i64 x.pg] 3) rfl (by intro u hu; simp at hu; subst hu; rfl))
        have HG := Lib.hid hpg
        clear S2 hpg
        go_wp2_with (with_reducible refine wpList_append_vec rfl (.tmp 34) (.tmp 37) 50 50 rfl 3 _ 1 8 Try.underlying50 infoInt ?c1 ?c2 pvv i (ints (P.take i)) ?c7 S3.out.vec (.slice (some ⟨w3.heap.size, 0, none⟩) 1 1) ?c8 1 _ CX.out ?c3 ?c4 ?_)
        case c1 => rfl
        case c2 => decide
        case c3 => unfold maxLen; omega
        case c4 => omega
        case c7 => rfl
        case c8 => rfl
        intro v' w4 hv hc hf
        have S4 := Lib.hid (S3.out.app hv hc hf)
        obtain ⟨A5, c5, rfl⟩ := hv.slice
        clear S3 CX hv hc hf k0
        go_wp2_with fail
        go_roundw
        case rel => exact ⟨i + 1, by go_num, by omega, Lib.hid (by rw [HG.out]; unfold ints; rw [List.map_append]; exact S4.out)⟩
        case measure => simp [intOf]; omega
      · obtain rfl : i = N := by omega
        have S2 := Lib.hid ((S1.out.re (show _ = (Asn.vec 98 8 (.slice Ap i cp) i (spL L) * (aLs L * aG g10 gs r1)) * (Asn.vec 3 1 u13 i (ints (P.take i)) * (aSf gs S V * C)) by ac_rfl)).right)
        have hPt : P.take i = P := List.take_of_length_le (by rw [HLN.out, ← HNN.out]; exact Nat.le_refl _)
        have hPl : P.length = i := by rw [HLN.out, ← HNN.out]
        rw [hPt] at S2
        have HPL := Lib.hid hPl
        clear S1 hPt hPl
        go_wp2_with fail
        go_returns
        exact ⟨_, rfl, by rw [← HPP.out, HPL.out]; exact S2.out⟩
  · have he1 : (((err : Nat) : Int) == 0) = false := beq_eq_false_iff_ne.2 (by omega)
    have hp := HB.out he
    subst hp
    have S1 := Lib.hid ((hX.re (show _ = (Asn.vec 98 8 pv L.length (spL L) * (aLs L * aG g10 gs r1)) * (aSf gs S V * C) by ac_rfl)).right.nilVec 3 1)
    clear hX HB he
    go_wp2_with fail
    go_returns
    exact ⟨_, rfl, S1.out⟩
end
end Go.Proofs.Yteiiogaopgfpfaa.Bk
