/- To the right, till a node covers a key. -/
import Derived.Test.YthoaangmekkcmaaBkC

namespace Go.Proofs.Ythoaangmekkcmaa.Bk
open Go.ChangeShapes Go.WideShapes Go.ChangeAt Go.RowKit Go.PlainAid Aid Nt Nd Tr
set_option linter.unusedVariables false
set_option linter.unusedSimpArgs false
set_option linter.unusedSectionVars false
theorem vis_bad (S : Sf) (l : Nat) (p : Int) (h : (vis S l p).err ≠ 0) : vis S l p = no (vis S l p).left (vis S l p).err := by
  cases l with
  | zero => rfl
  | succ l =>
    rw [vis_succ] at h ⊢
    cases hp : at_ S p with
    | none => rfl
    | some n => rw [hp] at h; exact absurd rfl h
theorem rgt_on (S : Sf) (key : By) (l : Nat) (p : Int) (n : Nod) (h : onB key n = true) : rgt S key l p n = if (vis S l n.right).err = 0 then rgt S key (vis S l n.right).left (vis S l n.right).pg (vis S l n.right).nd else vis S l n.right := by
  cases l with
  | zero => rw [rgt_zero, if_pos h]; rfl
  | succ l =>
    rw [rgt_succ, if_pos h, vis_succ]
    cases at_ S n.right with
    | none => rfl
    | some m => rfl
theorem rgt_off (S : Sf) (key : By) (l : Nat) (p : Int) (n : Nod) (h : onB key n = false) : rgt S key l p n = ⟨l, 0, p, n⟩ := by
  cases l with
  | zero => rw [rgt_zero, if_neg (by rw [h]; decide)]
  | succ l => rw [rgt_succ, if_neg (by rw [h]; decide)]
theorem eight_of {w : World} {g : Nat} {T : TypeId} {a0 a1 a2 a3 a4 a5 a6 a7 : Value} (h : Blk w g T #[a0, a1, a2, a3, a4, a5, a6, a7]) :
    w.cell? ⟨g, 0, none⟩ = some a0 ∧ w.cell? ⟨g, 1, none⟩ = some a1 ∧ w.cell? ⟨g, 2, none⟩ = some a2 ∧ w.cell? ⟨g, 3, none⟩ = some a3 ∧ w.cell? ⟨g, 4, none⟩ = some a4 ∧ w.cell? ⟨g, 5, none⟩ = some a5 ∧ w.cell? ⟨g, 6, none⟩ = some a6 ∧ w.cell? ⟨g, 7, none⟩ = some a7 :=
  ⟨h.cell 0, h.cell 1, h.cell 2, h.cell 3, h.cell 4, h.cell 5, h.cell 6, h.cell 7⟩
section
variable (gs : Nat) (S : Sf) (V : Nat → Value)
set_option maxRecDepth 100000 in
set_option maxHeartbeats 16000000 in
theorem right_any (hs : Small S) (gg left : Nat) (hl : left ≤ 256) (p : Int) (n : Nod) (v : Value) (key : By) (w0 w : World) (C : Asn) (hS : Own w0 No w (aEnts n v * (aG gg gs left * (aSf gs S V * C)))) :
    Calls Try.prog 58 #[sPtr gg, .agg (spotC p n v), .string (ofL key)] w fun e w' => ∃ v', e = .returned (.tuple #[.agg (spotC (rgt S key left p n).pg (rgt S key left p n).nd v'), .int .i64 (rgt S key left p n).err]) ∧
      Own w0 No w' (aEnts (rgt S key left p n).nd v' * (aG gg gs (rgt S key left p n).left * (aSf gs S V * C))) := by
  obtain ⟨A0, c0, rfl⟩ := (show Own w0 No w (Asn.vec 44 3 v n.list.length (cells3 n.list) * _) from hS).vec.slice
  have S0 := Lib.hid (((hS.alloc (spotC p n (.slice A0 n.list.length c0)) 100).alloc (spotC 0 Nod.none (.slice none 0 0)) 100).re (show _ = Asn.blk w.heap.size 100 (spotC p n (.slice A0 n.list.length c0)) * (Asn.blk (w.alloc (.cells (spotC p n (.slice A0 n.list.length c0)) 100)).heap.size 100 (spotC 0 Nod.none (.slice none 0 0)) * (aEnts n (.slice A0 n.list.length c0) * (aG gg gs left * (aSf gs S V * C)))) by ac_rfl))
  obtain ⟨r, hr⟩ : ∃ r, r = rgt S key left p n := ⟨_, rfl⟩
  have HR := Lib.hid hr.symm
  rw [← hr]
  clear hS hr
  have HV := Lib.hid (fun l hl q W C h => visit_any gs S V hs gg l hl q w0 W C h)
  have HC := Lib.hid (fun m v' W => Covers_any m v' key W)
  unfold spotC sPtr nodCells Nod.none at *
  dsimp only at S0
  rw [show ofL [] = (⟨#[]⟩ : ByteArray) from rfl] at S0
  rw [show (w.alloc (.cells #[.int .i64 p, .int .i64 n.tree, .int .i64 n.level, .int .i64 n.stamp, .bool n.has, .string (ofL n.high), .int .i64 n.right, .slice A0 n.list.length c0] 100)).heap.size = w.heap.size + 1 by simp] at S0
  go_enter Try.func58, Try.ntmps58
  go_upto_region 1 with fail
  obtain ⟨g4, hgz⟩ : ∃ g, g = w.heap.size := ⟨_, rfl⟩
  rw [← hgz] at S0 ⊢
  clear hgz
  generalize g4 + 1 = g6 at *
  generalize World.alloc _ _ = w1 at *
  go_loopw [8, 9] (fun _ _ wr => ∃ (l : Nat) (q : Int) (m : Nod) (A1 : Option Addr) (c1 : Nat), l ≤ 256 ∧ Hid (rgt S key l q m = r) ∧ Hid (Own w0 No wr (Asn.blk g4 100 #[.int .i64 q, .int .i64 m.tree, .int .i64 m.level, .int .i64 m.stamp, .bool m.has, .string (ofL m.high), .int .i64 m.right, .slice A1 m.list.length c1] * (Asn.blk g6 100 #[.int .i64 0, .int .i64 0, .int .i64 0, .int .i64 0, .bool false, .string ⟨#[]⟩, .int .i64 0, .slice none 0 0] * (aEnts m (.slice A1 m.list.length c1) * (aG gg gs l * (aSf gs S V * C))))))) (fun _ _ wr => (256 - intOf ((wr.cell? ⟨gg, 1, none⟩).getD undef)).toNat)
  case atStart => exact ⟨left, p, n, A0, c0, hl, HR, S0⟩
  case round =>
    clear S0 HR
    obtain ⟨l, q, m, A1, c1, hl1, HR, S0⟩ := hrel
    obtain ⟨k0, k1, k2, k3, k4, k5, k6, k7⟩ := eight_of (S0.out.has (Has.l (has_blk _ _ _)))
    have hgc : wr.cell? ⟨gg, 1, none⟩ = some (.int .i64 (256 - (l : Int))) := (S0.out.right.right.right.has (Has.l (has_blk _ _ _))).cell 1
    have hms : (256 - intOf ((wr.cell? ⟨gg, 1, none⟩).getD undef)).toNat = l := by rw [hgc]; simp [intOf]; omega
    have HCv := Lib.hid (HC.out m (.slice A1 m.list.length c1) wr)
    obtain ⟨cv, hcv⟩ : ∃ b, b = cov m key := ⟨_, rfl⟩
    have HCB := Lib.hid hcv
    rw [← hcv] at HCv
    clear hcv hgc
    have HM := Lib.hid hms
    clear hms
    go_wp2_with fail
    refine HCv.out.mono ?_
    rintro e w2 ⟨rfl, hX⟩
    have S1 := Lib.hid (S0.out.below hX)
    clear hX S0 HCv k0 k1 k2 k3 k4 k5 k6 k7
    obtain ⟨k0, k1, k2, k3, k4, k5, k6, k7⟩ := eight_of (S1.out.has (Has.l (has_blk _ _ _)))
    by_cases hon : cv = false ∧ m.right ≠ 0
    · obtain ⟨rfl, hr0⟩ := hon
      have hr1 : (m.right == 0) = false := beq_eq_false_iff_ne.2 hr0
      have HON : Hid (onB key m = true) := Lib.hid (by unfold onB; rw [← HCB.out, decide_eq_true hr0]; rfl)
      have HVv := Lib.hid (HV.out l hl1 m.right w2 _ (S1.out.re (show _ = aG gg gs l * (aSf gs S V * (Asn.blk g4 100 #[.int .i64 q, .int .i64 m.tree, .int .i64 m.level, .int .i64 m.stamp, .bool m.has, .string (ofL m.high), .int .i64 m.right, .slice A1 m.list.length c1] * (Asn.blk g6 100 #[.int .i64 0, .int .i64 0, .int .i64 0, .int .i64 0, .bool false, .string ⟨#[]⟩, .int .i64 0, .slice none 0 0] * (aEnts m (.slice A1 m.list.length c1) * C)))) by ac_rfl)))
      have HR2 := Lib.hid HR.out
      have hrg := HR.out
      rw [rgt_on S key l q m HON.out] at hrg
      have HRG := Lib.hid hrg
      clear hrg HR HR2 hr0
      go_wp2_with fail
      refine HVv.out.mono ?_
      rintro e w3 ⟨v3, rfl, hX⟩
      obtain ⟨x, hx⟩ : ∃ x, x = vis S l m.right := ⟨_, rfl⟩
      have HX1 := Lib.hid hx
      rw [← hx] at hX HRG ⊢
      obtain ⟨A3, c3, rfl⟩ := (show Own w0 No w3 (Asn.vec 44 3 v3 x.nd.list.length (cells3 x.nd.list) * _) from hX).vec.slice
      have S2 := Lib.hid ((hX.alloc #[.int .i64 x.pg, .int .i64 x.nd.tree, .int .i64 x.nd.level, .int .i64 x.nd.stamp, .bool x.nd.has, .string (ofL x.nd.high), .int .i64 x.nd.right, .slice A3 x.nd.list.length c3] 100).re (show _ = Asn.blk g4 100 #[.int .i64 q, .int .i64 m.tree, .int .i64 m.level, .int .i64 m.stamp, .bool m.has, .string (ofL m.high), .int .i64 m.right, .slice A1 m.list.length c1] * (Asn.blk g6 100 #[.int .i64 0, .int .i64 0, .int .i64 0, .int .i64 0, .bool false, .string ⟨#[]⟩, .int .i64 0, .slice none 0 0] * (Asn.blk w3.heap.size 100 #[.int .i64 x.pg, .int .i64 x.nd.tree, .int .i64 x.nd.level, .int .i64 x.nd.stamp, .bool x.nd.has, .string (ofL x.nd.high), .int .i64 x.nd.right, .slice A3 x.nd.list.length c3] * (aEnts x.nd (.slice A3 x.nd.list.length c3) * (aG gg gs x.left * (aSf gs S V * (aEnts m (.slice A1 m.list.length c1) * C)))))) by ac_rfl))
      have hxl : x.left ≤ l := by rw [hx]; exact vis_left ..
      clear hx hX S1 HVv k0 k1 k2 k3 k4 k5 k6 k7
      go_upto_region 3 with fail
      obtain ⟨g8, hgz⟩ : ∃ g, g = w3.heap.size := ⟨_, rfl⟩
      rw [← hgz] at S2 ⊢
      clear hgz
      generalize World.alloc _ _ = w4 at *
      by_cases herr : x.err = 0
      · have he0 : ((x.err : Nat) : Int) = 0 := by rw [herr]; rfl
        have hxl2 : x.left + 1 = l := by rw [HX1.out] at herr ⊢; exact vis_less S l _ herr
        have hrg := HRG.out
        rw [if_pos herr] at hrg
        have HR := Lib.hid hrg
        clear hrg HRG
        obtain ⟨y0, y1, y2, y3, y4, y5, y6, y7⟩ := eight_of (S2.out.has (Has.r (Has.r (Has.l (has_blk _ _ _)))))
        have HST := Lib.hid (store8 (S2.out.has (Has.l (has_blk _ _ _))) x.pg x.nd.tree x.nd.level x.nd.stamp x.nd.right x.nd.has (ofL x.nd.high) A3 x.nd.list.length c3)
        have S3 := Lib.hid (own_8 S2.out (.int .i64 x.pg) (.int .i64 x.nd.tree) (.int .i64 x.nd.level) (.int .i64 x.nd.stamp) (.bool x.nd.has) (.string (ofL x.nd.high)) (.int .i64 x.nd.right) (.slice A3 x.nd.list.length c3))
        rw [he0]
        clear S2
        go_wp2_with (with_reducible refine step_store rfl rfl (.tmp 4) (.tmp 33) 100 rfl (.pointer (some ⟨g4, 0, none⟩)) (.agg #[.int .i64 x.pg, .int .i64 x.nd.tree, .int .i64 x.nd.level, .int .i64 x.nd.stamp, .bool x.nd.has, .string (ofL x.nd.high), .int .i64 x.nd.right, .slice A3 x.nd.list.length c3]) ?c1 ?c2 _ HST.out ?_)
        try (case c1 => rfl)
        try (case c2 => rfl)
        go_wp2_with fail
        have S4 := Lib.hid (S3.out.re (show _ = (Asn.blk g8 100 #[.int .i64 x.pg, .int .i64 x.nd.tree, .int .i64 x.nd.level, .int .i64 x.nd.stamp, .bool x.nd.has, .string (ofL x.nd.high), .int .i64 x.nd.right, .slice A3 x.nd.list.length c3] * aEnts m (.slice A1 m.list.length c1)) * (Asn.blk g4 100 #[.int .i64 x.pg, .int .i64 x.nd.tree, .int .i64 x.nd.level, .int .i64 x.nd.stamp, .bool x.nd.has, .string (ofL x.nd.high), .int .i64 x.nd.right, .slice A3 x.nd.list.length c3] * (Asn.blk g6 100 #[.int .i64 0, .int .i64 0, .int .i64 0, .int .i64 0, .bool false, .string ⟨#[]⟩, .int .i64 0, .slice none 0 0] * (aEnts x.nd (.slice A3 x.nd.list.length c3) * (aG gg gs x.left * (aSf gs S V * C))))) by ac_rfl)).right
        have hgc2 := (S4.out.right.right.right.has (Has.l (has_blk _ _ _))).cell 1
        have HG2 := Lib.hid hgc2
        clear hgc2 S3
        go_roundw
        case rel => exact ⟨x.left, x.pg, x.nd, A3, c3, by omega, HR, S4⟩
        case measure =>
          rw [HM.out, HG2.out]
          simp [intOf]
          omega
      · have hrx := HRG.out
        rw [if_neg herr] at hrx
        subst hrx
        have hb := vis_bad S l m.right (by rw [← HX1.out]; exact herr)
        rw [← HX1.out] at hb
        have hpg : x.pg = 0 := by rw [hb]; rfl
        have hnd : x.nd = Nod.none := by rw [hb]; rfl
        have HPG := Lib.hid hpg
        have HND := Lib.hid hnd
        have he1 : (((x.err : Nat) : Int) == 0) = false := beq_eq_false_iff_ne.2 (by omega)
        have S3 := Lib.hid (S2.out.re (show _ = Asn.blk g6 100 #[.int .i64 0, .int .i64 0, .int .i64 0, .int .i64 0, .bool false, .string ⟨#[]⟩, .int .i64 0, .slice none 0 0] * ((Asn.blk g8 100 #[.int .i64 x.pg, .int .i64 x.nd.tree, .int .i64 x.nd.level, .int .i64 x.nd.stamp, .bool x.nd.has, .string (ofL x.nd.high), .int .i64 x.nd.right, .slice A3 x.nd.list.length c3] * (aEnts m (.slice A1 m.list.length c1) * (Asn.blk g4 100 #[.int .i64 q, .int .i64 m.tree, .int .i64 m.level, .int .i64 m.stamp, .bool m.has, .string (ofL m.high), .int .i64 m.right, .slice A1 m.list.length c1] * aEnts x.nd (.slice A3 x.nd.list.length c3)))) * (aG gg gs x.left * (aSf gs S V * C))) by ac_rfl))
        clear S2 hb hpg hnd
        have HST := Lib.hid (store8 (S3.out.has (Has.l (has_blk _ _ _))) 0 0 0 0 0 false ⟨#[]⟩ none 0 0)
        have S4 := Lib.hid (own_8 S3.out (.int .i64 0) (.int .i64 0) (.int .i64 0) (.int .i64 0) (.bool false) (.string ⟨#[]⟩) (.int .i64 0) (.slice none 0 0))
        clear S3
        go_wp2_with (with_reducible refine step_store rfl rfl (.tmp 6) (.tmp 31) 100 rfl (.pointer (some ⟨g6, 0, none⟩)) (.agg #[.int .i64 0, .int .i64 0, .int .i64 0, .int .i64 0, .bool false, .string ⟨#[]⟩, .int .i64 0, .slice none 0 0]) ?c1 ?c2 _ HST.out ?_)
        try (case c1 => rfl)
        try (case c2 => rfl)
        refine bodyPost_ret (res8 rfl rfl rfl (S4.out.has (Has.l (has_blk _ _ _)))) rfl ⟨.slice none 0 0, ?_, ?_⟩
        · rw [HPG.out, HND.out]; rfl
        · rw [HND.out]; exact none_ents S4.out.right.right
    · have HOF : Hid (onB key m = false) := Lib.hid (by
        unfold onB
        rw [← HCB.out]
        cases cv with
        | true => rfl
        | false =>
          rw [decide_eq_false (fun e => hon ⟨rfl, e⟩)]; rfl)
      have hrg := HR.out
      rw [rgt_off S key l q m HOF.out] at hrg
      have hex : cv = true ∨ (cv = false ∧ m.right = 0) := by
        cases cv with
        | true => exact Or.inl rfl
        | false => exact Or.inr ⟨rfl, Decidable.byContradiction fun e => hon ⟨rfl, e⟩⟩
      have hr1 : cv = false → (m.right == 0) = true := fun e => by
        rcases hex with h | ⟨-, h⟩
        · rw [h] at e; cases e
        · rw [h]; rfl
      clear hon hex
      subst hrg
      have HST := Lib.hid (store8 (S1.out.has (Has.r (Has.l (has_blk _ _ _)))) q m.tree m.level m.stamp m.right m.has (ofL m.high) A1 m.list.length c1)
      have S3 := Lib.hid (own_8 (S1.out.re (show _ = Asn.blk g6 100 #[.int .i64 0, .int .i64 0, .int .i64 0, .int .i64 0, .bool false, .string ⟨#[]⟩, .int .i64 0, .slice none 0 0] * (Asn.blk g4 100 #[.int .i64 q, .int .i64 m.tree, .int .i64 m.level, .int .i64 m.stamp, .bool m.has, .string (ofL m.high), .int .i64 m.right, .slice A1 m.list.length c1] * (aEnts m (.slice A1 m.list.length c1) * (aG gg gs l * (aSf gs S V * C)))) by ac_rfl)) (.int .i64 q) (.int .i64 m.tree) (.int .i64 m.level) (.int .i64 m.stamp) (.bool m.has) (.string (ofL m.high)) (.int .i64 m.right) (.slice A1 m.list.length c1))
      clear S1
      cases cv with
      | true =>
        go_wp2_with (with_reducible refine step_store rfl rfl (.tmp 6) (.tmp 34) 100 rfl (.pointer (some ⟨g6, 0, none⟩)) (.agg #[.int .i64 q, .int .i64 m.tree, .int .i64 m.level, .int .i64 m.stamp, .bool m.has, .string (ofL m.high), .int .i64 m.right, .slice A1 m.list.length c1]) ?c1 ?c2 _ HST.out ?_)
        try (case c1 => rfl)
        try (case c2 => rfl)
        exact bodyPost_ret (res8 rfl rfl rfl (S3.out.has (Has.l (has_blk _ _ _)))) rfl ⟨_, rfl, S3.out.right.right⟩
      | false =>
        have hr1 := hr1 rfl
        go_wp2_with (with_reducible refine step_store rfl rfl (.tmp 6) (.tmp 34) 100 rfl (.pointer (some ⟨g6, 0, none⟩)) (.agg #[.int .i64 q, .int .i64 m.tree, .int .i64 m.level, .int .i64 m.stamp, .bool m.has, .string (ofL m.high), .int .i64 m.right, .slice A1 m.list.length c1]) ?c1 ?c2 _ HST.out ?_)
        try (case c1 => rfl)
        try (case c2 => rfl)
        exact bodyPost_ret (res8 rfl rfl rfl (S3.out.has (Has.l (has_blk _ _ _)))) rfl ⟨_, rfl, S3.out.right.right⟩
end
end Go.Proofs.Ythoaangmekkcmaa.Bk
