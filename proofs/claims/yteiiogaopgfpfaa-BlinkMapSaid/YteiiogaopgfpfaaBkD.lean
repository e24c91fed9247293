/- Texts of ours, joined. -/
import Derived.Test.YteiiogaopgfpfaaNdH

-- joined
section
namespace Go.Proofs.Yteiiogaopgfpfaa.Bk
open Go.ChangeShapes Go.WideShapes Go.ChangeAt Go.RowKit Go.PlainAid Aid Nt Nd Tr
set_option linter.unusedVariables false
set_option linter.unusedSimpArgs false
set_option linter.unusedSectionVars false
theorem vis_bad (S : Sf) (l : Nat) (p : Int) (h : (vis S l p).err ≠ 0) : vis S l p = no (vis S l p).left (vis S l p).err := by
  cases l with
  | zero => rfl
  | succ l =>
    rw [vis_succ] at h ⊢
    cases hp : at_ S p with
    | none => rfl
    | some n => rw [hp] at h; exact absurd rfl h
theorem rgt_on (S : Sf) (key : By) (l : Nat) (p : Int) (n : Nod) (h : onB key n = true) : rgt S key l p n = if (vis S l n.right).err = 0 then rgt S key (vis S l n.right).left (vis S l n.right).pg (vis S l n.right).nd else vis S l n.right := by
  cases l with
  | zero => rw [rgt_zero, if_pos h]; rfl
  | succ l =>
    rw [rgt_succ, if_pos h, vis_succ]
    cases at_ S n.right with
    | none => rfl
    | some m => rfl
theorem rgt_off (S : Sf) (key : By) (l : Nat) (p : Int) (n : Nod) (h : onB key n = false) : rgt S key l p n = ⟨l, 0, p, n⟩ := by
  cases l with
  | zero => rw [rgt_zero, if_neg (by rw [h]; decide)]
  | succ l => rw [rgt_succ, if_neg (by rw [h]; decide)]
theorem eight_of {w : World} {g : Nat} {T : TypeId} {a0 a1 a2 a3 a4 a5 a6 a7 : Value} (h : Blk w g T #[a0, a1, a2, a3, a4, a5, a6, a7]) :
    w.cell? ⟨g, 0, none⟩ = some a0 ∧ w.cell? ⟨g, 1, none⟩ = some a1 ∧ w.cell? ⟨g, 2, none⟩ = some a2 ∧ w.cell? ⟨g, 3, none⟩ = some a3 ∧ w.cell? ⟨g, 4, none⟩ = some a4 ∧ w.cell? ⟨g, 5, none⟩ = some a5 ∧ w.cell? ⟨g, 6, none⟩ = some a6 ∧ w.cell? ⟨g, 7, none⟩ = some a7 :=
  ⟨h.cell 0, h.cell 1, h.cell 2, h.cell 3, h.cell 4, h.cell 5, h.cell 6, h.cell 7⟩
section
variable (gs : Nat) (S : Sf) (V : Nat → Value)
set_option maxRecDepth 100000 in
set_option maxHeartbeats 16000000 in
theorem right_any (hs : Small S) (gg left : Nat) (hl : left ≤ 256) (p : Int) (n : Nod) (v : Value) (key : By) (w0 w : World) (C : Asn) (hS : Own w0 No w (aEnts n v * (aG gg gs left * (aSf gs S V * C)))) :
    Calls Try.prog 56 #[sPtr gg, .agg (spotC p n v), .string (ofL key)] w fun e w' => ∃ v', e = .returned (.tuple #[.agg (spotC (rgt S key left p n).pg (rgt S key left p n).nd v'), .int .i64 (rgt S key left p n).err]) ∧
      Own w0 No w' (aEnts (rgt S key left p n).nd v' * (aG gg gs (rgt S key left p n).left * (aSf gs S V * C))) := by
  obtain ⟨A0, c0, rfl⟩ := (show Own w0 No w (Asn.vec 44 3 v n.list.length (cells3 n.list) * _) from hS).vec.slice
  have S0 := Lib.hid (((hS.alloc (spotC p n (.slice A0 n.list.length c0)) 98).alloc (spotC 0 Nod.none (.slice none 0 0)) 98).re (show _ = Asn.blk w.heap.size 98 (spotC p n (.slice A0 n.list.length c0)) * (Asn.blk (w.alloc (.cells (spotC p n (.slice A0 n.list.length c0)) 98)).heap.size 98 (spotC 0 Nod.none (.slice none 0 0)) * (aEnts n (.slice A0 n.list.length c0) * (aG gg gs left * (aSf gs S V * C)))) by ac_rfl))
  obtain ⟨r, hr⟩ : ∃ r, r = rgt S key left p n := ⟨_, rfl⟩
  have HR := Lib.hid hr.symm
  rw [← hr]
  clear hS hr
  have HV := Lib.hid (fun l hl q W C h => visit_any gs S V hs gg l hl q w0 W C h)
  have HC := Lib.hid (fun m v' W => Covers_any m v' key W)
  unfold spotC sPtr nodCells Nod.none at *
  dsimp only at S0
  rw [show ofL [] = (⟨#[]⟩ : ByteArray) from rfl] at S0
  rw [show (w.alloc (.cells #[.int .i64 p, .int .i64 n.tree, .int .i64 n.level, .int .i64 n.stamp, .bool n.has, .string (ofL n.high), .int .i64 n.right, .slice A0 n.list.length c0] 98)).heap.size = w.heap.size + 1 by simp] at S0
  go_enter Try.func56, Try.ntmps56
  go_upto_region 1 with fail
  obtain ⟨g4, hgz⟩ : ∃ g, g = w.heap.size := ⟨_, rfl⟩
  rw [← hgz] at S0 ⊢
  clear hgz
  generalize g4 + 1 = g6 at *
  generalize World.alloc _ _ = w1 at *
  go_loopw [8, 9] (fun _ _ wr => ∃ (l : Nat) (q : Int) (m : Nod) (A1 : Option Addr) (c1 : Nat), l ≤ 256 ∧ Hid (rgt S key l q m = r) ∧ Hid (Own w0 No wr (Asn.blk g4 98 #[.int .i64 q, .int .i64 m.tree, .int .i64 m.level, .int .i64 m.stamp, .bool m.has, .string (ofL m.high), .int .i64 m.right, .slice A1 m.list.length c1] * (Asn.blk g6 98 #[.int .i64 0, .int .i64 0, .int .i64 0, .int .i64 0, .bool false, .string ⟨#[]⟩, .int .i64 0, .slice none 0 0] * (aEnts m (.slice A1 m.list.length c1) * (aG gg gs l * (aSf gs S V * C))))))) (fun _ _ wr => (256 - intOf ((wr.cell? ⟨gg, 1, none⟩).getD undef)).toNat)
  case atStart => exact ⟨left, p, n, A0, c0, hl, HR, S0⟩
  case round =>
    clear S0 HR
    obtain ⟨l, q, m, A1, c1, hl1, HR, S0⟩ := hrel
    obtain ⟨k0, k1, k2, k3, k4, k5, k6, k7⟩ := eight_of (S0.out.has (Has.l (has_blk _ _ _)))
    have hgc : wr.cell? ⟨gg, 1, none⟩ = some (.int .i64 (256 - (l : Int))) := (S0.out.right.right.right.has (Has.l (has_blk _ _ _))).cell 1
    have hms : (256 - intOf ((wr.cell? ⟨gg, 1, none⟩).getD undef)).toNat = l := by rw [hgc]; simp [intOf]; omega
    have HCv := Lib.hid (HC.out m (.slice A1 m.list.length c1) wr)
    obtain ⟨cv, hcv⟩ : ∃ b, b = cov m key := ⟨_, rfl⟩
    have HCB := Lib.hid hcv
    rw [← hcv] at HCv
    clear hcv hgc
    have HM := Lib.hid hms
    clear hms
    go_wp2_with fail
    refine HCv.out.mono ?_
    rintro e w2 ⟨rfl, hX⟩
    have S1 := Lib.hid (S0.out.below hX)
    clear hX S0 HCv k0 k1 k2 k3 k4 k5 k6 k7
    obtain ⟨k0, k1, k2, k3, k4, k5, k6, k7⟩ := eight_of (S1.out.has (Has.l (has_blk _ _ _)))
    by_cases hon : cv = false ∧ m.right ≠ 0
    · obtain ⟨rfl, hr0⟩ := hon
      have hr1 : (m.right == 0) = false := beq_eq_false_iff_ne.2 hr0
      have HON : Hid (onB key m = true) := Lib.hid (by unfold onB; rw [← HCB.out, decide_eq_true hr0]; rfl)
      have HVv := Lib.hid (HV.out l hl1 m.right w2 _ (S1.out.re (show _ = aG gg gs l * (aSf gs S V * (Asn.blk g4 98 #[.int .i64 q, .int .i64 m.tree, .int .i64 m.level, .int .i64 m.stamp, .bool m.has, .string (ofL m.high), .int .i64 m.right, .slice A1 m.list.length c1] * (Asn.blk g6 98 #[.int .i64 0, .int .i64 0, .int .i64 0, .int .i64 0, .bool false, .string ⟨#[]⟩, .int .i64 0, .slice none 0 0] * (aEnts m (.slice A1 m.list.length c1) * C)))) by ac_rfl)))
      have HR2 := Lib.hid HR.out
      have hrg := HR.out
      rw [rgt_on S key l q m HON.out] at hrg
      have HRG := Lib.hid hrg
      clear hrg HR HR2 hr0
      go_wp2_with fail
      refine HVv.out.mono ?_
      rintro e w3 ⟨v3, rfl, hX⟩
      obtain ⟨x, hx⟩ : ∃ x, x = vis S l m.right := ⟨_, rfl⟩
      have HX1 := Lib.hid hx
      rw [← hx] at hX HRG ⊢
      obtain ⟨A3, c3, rfl⟩ := (show Own w0 No w3 (Asn.vec 44 3 v3 x.nd.list.length (cells3 x.nd.list) * _) from hX).vec.slice
      have S2 := Lib.hid ((hX.alloc #[.int .i64 x.pg, .int .i64 x.nd.tree, .int .i64 x.nd.level, .int .i64 x.nd.stamp, .bool x.nd.has, .string (ofL x.nd.high), .int .i64 x.nd.right, .slice A3 x.nd.list.length c3] 98).re (show _ = Asn.blk g4 98 #[.int .i64 q, .int .i64 m.tree, .int .i64 m.level, .int .i64 m.stamp, .bool m.has, .string (ofL m.high), .int .i64 m.right, .slice A1 m.list.length c1] * (Asn.blk g6 98 #[.int .i64 0, .int .i64 0, .int .i64 0, .int .i64 0, .bool false, .string ⟨#[]⟩, .int .i64 0, .slice none 0 0] * (Asn.blk w3.heap.size 98 #[.int .i64 x.pg, .int .i64 x.nd.tree, .int .i64 x.nd.level, .int .i64 x.nd.stamp, .bool x.nd.has, .string (ofL x.nd.high), .int .i64 x.nd.right, .slice A3 x.nd.list.length c3] * (aEnts x.nd (.slice A3 x.nd.list.length c3) * (aG gg gs x.left * (aSf gs S V * (aEnts m (.slice A1 m.list.length c1) * C)))))) by ac_rfl))
      have hxl : x.left ≤ l := by rw [hx]; exact vis_left ..
      clear hx hX S1 HVv k0 k1 k2 k3 k4 k5 k6 k7
      go_upto_region 3 with fail
      obtain ⟨g8, hgz⟩ : ∃ g, g = w3.heap.size := ⟨_, rfl⟩
      rw [← hgz] at S2 ⊢
      clear hgz
      generalize World.alloc _ _ = w4 at *
      by_cases herr : x.err = 0
      · have he0 : ((x.err : Nat) : Int) = 0 := by rw [herr]; rfl
        have hxl2 : x.left + 1 = l := by rw [HX1.out] at herr ⊢; exact vis_less S l _ herr
        have hrg := HRG.out
        rw [if_pos herr] at hrg
        have HR := Lib.hid hrg
        clear hrg HRG
        obtain ⟨y0, y1, y2, y3, y4, y5, y6, y7⟩ := eight_of (S2.out.has (Has.r (Has.r (Has.l (has_blk _ _ _)))))
        have HST := Lib.hid (store8 (S2.out.has (Has.l (has_blk _ _ _))) x.pg x.nd.tree x.nd.level x.nd.stamp x.nd.right x.nd.has (ofL x.nd.high) A3 x.nd.list.length c3)
        have S3 := Lib.hid (own_8 S2.out (.int .i64 x.pg) (.int .i64 x.nd.tree) (.int .i64 x.nd.level) (.int .i64 x.nd.stamp) (.bool x.nd.has) (.string (ofL x.nd.high)) (.int .i64 x.nd.right) (.slice A3 x.nd.list.length c3))
        rw [he0]
        clear S2
        go_wp2_with (with_reducible refine step_store rfl rfl (.tmp 4) (.tmp 33) 98 rfl (.pointer (some ⟨g4, 0, none⟩)) (.agg #[.int .i64 x.pg, .int .i64 x.nd.tree, .int .i64 x.nd.level, .int .i64 x.nd.stamp, .bool x.nd.has, .string (ofL x.nd.high), .int .i64 x.nd.right, .slice A3 x.nd.list.length c3]) ?c1 ?c2 _ HST.out ?_)
        try (case c1 => rfl)
        try (case c2 => rfl)
        go_wp2_with fail
        have S4 := Lib.hid (S3.out.re (show _ = (Asn.blk g8 98 #[.int .i64 x.pg, .int .i64 x.nd.tree, .int .i64 x.nd.level, .int .i64 x.nd.stamp, .bool x.nd.has, .string (ofL x.nd.high), .int .i64 x.nd.right, .slice A3 x.nd.list.length c3] * aEnts m (.slice A1 m.list.length c1)) * (Asn.blk g4 98 #[.int .i64 x.pg, .int .i64 x.nd.tree, .int .i64 x.nd.level, .int .i64 x.nd.stamp, .bool x.nd.has, .string (ofL x.nd.high), .int .i64 x.nd.right, .slice A3 x.nd.list.length c3] * (Asn.blk g6 98 #[.int .i64 0, .int .i64 0, .int .i64 0, .int .i64 0, .bool false, .string ⟨#[]⟩, .int .i64 0, .slice none 0 0] * (aEnts x.nd (.slice A3 x.nd.list.length c3) * (aG gg gs x.left * (aSf gs S V * C))))) by ac_rfl)).right
        have hgc2 := (S4.out.right.right.right.has (Has.l (has_blk _ _ _))).cell 1
        have HG2 := Lib.hid hgc2
        clear hgc2 S3
        go_roundw
        case rel => exact ⟨x.left, x.pg, x.nd, A3, c3, by omega, HR, S4⟩
        case measure =>
          rw [HM.out, HG2.out]
          simp [intOf]
          omega
      · have hrx := HRG.out
        rw [if_neg herr] at hrx
        subst hrx
        have hb := vis_bad S l m.right (by rw [← HX1.out]; exact herr)
        rw [← HX1.out] at hb
        have hpg : x.pg = 0 := by rw [hb]; rfl
        have hnd : x.nd = Nod.none := by rw [hb]; rfl
        have HPG := Lib.hid hpg
        have HND := Lib.hid hnd
        have he1 : (((x.err : Nat) : Int) == 0) = false := beq_eq_false_iff_ne.2 (by omega)
        have S3 := Lib.hid (S2.out.re (show _ = Asn.blk g6 98 #[.int .i64 0, .int .i64 0, .int .i64 0, .int .i64 0, .bool false, .string ⟨#[]⟩, .int .i64 0, .slice none 0 0] * ((Asn.blk g8 98 #[.int .i64 x.pg, .int .i64 x.nd.tree, .int .i64 x.nd.level, .int .i64 x.nd.stamp, .bool x.nd.has, .string (ofL x.nd.high), .int .i64 x.nd.right, .slice A3 x.nd.list.length c3] * (aEnts m (.slice A1 m.list.length c1) * (Asn.blk g4 98 #[.int .i64 q, .int .i64 m.tree, .int .i64 m.level, .int .i64 m.stamp, .bool m.has, .string (ofL m.high), .int .i64 m.right, .slice A1 m.list.length c1] * aEnts x.nd (.slice A3 x.nd.list.length c3)))) * (aG gg gs x.left * (aSf gs S V * C))) by ac_rfl))
        clear S2 hb hpg hnd
        have HST := Lib.hid (store8 (S3.out.has (Has.l (has_blk _ _ _))) 0 0 0 0 0 false ⟨#[]⟩ none 0 0)
        have S4 := Lib.hid (own_8 S3.out (.int .i64 0) (.int .i64 0) (.int .i64 0) (.int .i64 0) (.bool false) (.string ⟨#[]⟩) (.int .i64 0) (.slice none 0 0))
        clear S3
        go_wp2_with (with_reducible refine step_store rfl rfl (.tmp 6) (.tmp 31) 98 rfl (.pointer (some ⟨g6, 0, none⟩)) (.agg #[.int .i64 0, .int .i64 0, .int .i64 0, .int .i64 0, .bool false, .string ⟨#[]⟩, .int .i64 0, .slice none 0 0]) ?c1 ?c2 _ HST.out ?_)
        try (case c1 => rfl)
        try (case c2 => rfl)
        refine bodyPost_ret (res8 rfl rfl rfl (S4.out.has (Has.l (has_blk _ _ _)))) rfl ⟨.slice none 0 0, ?_, ?_⟩
        · rw [HPG.out, HND.out]; rfl
        · rw [HND.out]; exact none_ents S4.out.right.right
    · have HOF : Hid (onB key m = false) := Lib.hid (by
        unfold onB
        rw [← HCB.out]
        cases cv with
        | true => rfl
        | false =>
          rw [decide_eq_false (fun e => hon ⟨rfl, e⟩)]; rfl)
      have hrg := HR.out
      rw [rgt_off S key l q m HOF.out] at hrg
      have hex : cv = true ∨ (cv = false ∧ m.right = 0) := by
        cases cv with
        | true => exact Or.inl rfl
        | false => exact Or.inr ⟨rfl, Decidable.byContradiction fun e => hon ⟨rfl, e⟩⟩
      have hr1 : cv = false → (m.right == 0) = true := fun e => by
        rcases hex with h | ⟨-, h⟩
        · rw [h] at e; cases e
        · rw [h]; rfl
      clear hon hex
      subst hrg
      have HST := Lib.hid (store8 (S1.out.has (Has.r (Has.l (has_blk _ _ _)))) q m.tree m.level m.stamp m.right m.has (ofL m.high) A1 m.list.length c1)
      have S3 := Lib.hid (own_8 (S1.out.re (show _ = Asn.blk g6 98 #[.int .i64 0, .int .i64 0, .int .i64 0, .int .i64 0, .bool false, .string ⟨#[]⟩, .int .i64 0, .slice none 0 0] * (Asn.blk g4 98 #[.int .i64 q, .int .i64 m.tree, .int .i64 m.level, .int .i64 m.stamp, .bool m.has, .string (ofL m.high), .int .i64 m.right, .slice A1 m.list.length c1] * (aEnts m (.slice A1 m.list.length c1) * (aG gg gs l * (aSf gs S V * C)))) by ac_rfl)) (.int .i64 q) (.int .i64 m.tree) (.int .i64 m.level) (.int .i64 m.stamp) (.bool m.has) (.string (ofL m.high)) (.int .i64 m.right) (.slice A1 m.list.length c1))
      clear S1
      cases cv with
      | true =>
        go_wp2_with (with_reducible refine step_store rfl rfl (.tmp 6) (.tmp 34) 98 rfl (.pointer (some ⟨g6, 0, none⟩)) (.agg #[.int .i64 q, .int .i64 m.tree, .int .i64 m.level, .int .i64 m.stamp, .bool m.has, .string (ofL m.high), .int .i64 m.right, .slice A1 m.list.length c1]) ?c1 ?c2 _ HST.out ?_)
        try (case c1 => rfl)
        try (case c2 => rfl)
        exact bodyPost_ret (res8 rfl rfl rfl (S3.out.has (Has.l (has_blk _ _ _)))) rfl ⟨_, rfl, S3.out.right.right⟩
      | false =>
        have hr1 := hr1 rfl
        go_wp2_with (with_reducible refine step_store rfl rfl (.tmp 6) (.tmp 34) 98 rfl (.pointer (some ⟨g6, 0, none⟩)) (.agg #[.int .i64 q, .int .i64 m.tree, .int .i64 m.level, .int .i64 m.stamp, .bool m.has, .string (ofL m.high), .int .i64 m.right, .slice A1 m.list.length c1]) ?c1 ?c2 _ HST.out ?_)
        try (case c1 => rfl)
        try (case c2 => rfl)
        exact bodyPost_ret (res8 rfl rfl rfl (S3.out.has (Has.l (has_blk _ _ _)))) rfl ⟨_, rfl, S3.out.right.right⟩
end
end Go.Proofs.Yteiiogaopgfpfaa.Bk
end

-- joined
section
namespace Go.Proofs.Yteiiogaopgfpfaa.Bk
open Go.ChangeShapes Go.WideShapes Go.ChangeAt Go.RowKit Go.PlainAid Aid Nt Nd Tr
set_option linter.unusedVariables false
set_option linter.unusedSimpArgs false
set_option linter.unusedSectionVars false
theorem ofL_inj {a b : By} (h : ofL a = ofL b) : a = b := by
  have := congrArg ByteArray.toList h
  rw [ofL_toList, ofL_toList] at this
  exact this
set_option maxRecDepth 100000 in
set_option maxHeartbeats 4000000 in
theorem leads_any (e : Ent) (w : World) :
    Calls Try.prog 59 #[.agg (entCells e)] w fun r w' => r = .returned (.bool (leadsB e)) ∧ Below w.heap.size w w' := by
  have S := Lib.hid ((Own.none w).alloc (entCells e) 44).left
  have HCh := Lib.hid (fun W => Child_any e W)
  have HL := Lib.hid (fun W => Lead_any (ofL e.key) (childL e.val) W)
  unfold entCells at *
  go_enter Try.func59, Try.ntmps59
  go_upto_region 1 with fail
  obtain ⟨g, hgz⟩ : ∃ g, g = w.heap.size := ⟨_, rfl⟩
  have HB := Lib.hid ((Own.none w).alloc #[.string (ofL e.key), .string (ofL e.val), .bool e.ghost] 44).bel
  rw [← hgz] at S ⊢
  clear hgz
  generalize World.alloc _ _ = w1 at *
  have F : Hid (∀ W, Own w No W (Asn.blk g 44 #[.string (ofL e.key), .string (ofL e.val), .bool e.ghost]) → W.cell? ⟨g, 0, none⟩ = some (.string (ofL e.key)) ∧ W.cell? ⟨g, 1, none⟩ = some (.string (ofL e.val)) ∧ W.cell? ⟨g, 2, none⟩ = some (.bool e.ghost)) := Lib.hid fun W h => by
    have h := h.has (has_blk _ _ _)
    exact ⟨h.cell 0, h.cell 1, h.cell 2⟩
  have S1 := Lib.hid S.out.drew
  have tA := F.out _ S1.out
  clear S
  have hfd : ∀ (W : World) (x y : ByteArray) (z : Bool), (Instr.field 44 (.agg #[.string x, .string y, .bool z]) 1).run Try.prog W = .ok (.string y) W := fun W x y z => by kernel_rfl
  obtain ⟨q, hq⟩ : ∃ q, q = childL e.val := ⟨_, rfl⟩
  have HQ := Lib.hid hq
  rw [← hq] at HL HCh
  clear hq
  go_region_held3 (fun W : World => W.cell? ⟨g, 0, none⟩ = some (.string (ofL e.key)) ∧ W.cell? ⟨g, 1, none⟩ = some (.string (ofL e.val)) ∧ W.cell? ⟨g, 2, none⟩ = some (.bool e.ghost)) (first | exact tA | exact tB | exact tC) (first | (go_at_call 19; refine (HCh.out _).mono ?_; rintro r w2 ⟨rfl, hX⟩; have S2 := Lib.hid (S1.out.below hX); have tB := F.out _ S2.out) | (go_at_call 58; refine (HL.out _).mono ?_; rintro r w3 ⟨rfl, hX⟩; have S3 := Lib.hid (S2.out.below hX); have tC := F.out _ S3.out))
  have HLB : Hid (((ofL (numZ 2 (q : Int))).toList == (ofL e.val).toList) = leadsB e) := Lib.hid (by
    rw [ofL_toList, ofL_toList, HQ.out]
    unfold leadsB
    by_cases h : numZ 2 ((childL e.val : Nat) : Int) = e.val
    · rw [h]; simp
    · rw [decide_eq_false h]; simpa using h)
  clear tA tB tC F HL HCh
  go_wp2_with fail
  go_returns
  exact ⟨by rw [HLB.out]; rfl, S3.out.bel⟩
theorem cells3_at (l : List Ent) (q j : Nat) (e : Ent) (h : l[q]? = some e) (hj : j < 3) : (cells3 l)[q * 3 + j]? = [Value.string (ofL e.key), .string (ofL e.val), .bool e.ghost][j]? :=
  flatMap_at (fun x : Ent => [Value.string (ofL x.key), .string (ofL x.val), .bool x.ghost]) 3 (fun _ => rfl) l q j e h hj
theorem store_fail {w0 w : World} {O0 : Nat → Prop} {A : Asn} {g : Nat} (h : Own w0 O0 w (Asn.blk g 98 #[.int .i64 0, .int .i64 0, .int .i64 0, .int .i64 0, .bool false, .string ⟨#[]⟩, .int .i64 0, .slice none 0 0] * A)) :
    (Instr.storeAt 98 (.pointer (some ⟨g, 0, none⟩)) (.agg #[.int .i64 0, .int .i64 0, .int .i64 0, .int .i64 0, .bool false, .string ⟨#[]⟩, .int .i64 0, .slice none 0 0])).run Try.prog w = .ok () ((((((((w.setCell ⟨g, 0, none⟩ (.int .i64 0)).setCell ⟨g, 1, none⟩ (.int .i64 0)).setCell ⟨g, 2, none⟩ (.int .i64 0)).setCell ⟨g, 3, none⟩ (.int .i64 0)).setCell ⟨g, 4, none⟩ (.bool false)).setCell ⟨g, 5, none⟩ (.string ⟨#[]⟩)).setCell ⟨g, 6, none⟩ (.int .i64 0)).setCell ⟨g, 7, none⟩ (.slice none 0 0)) :=
  store8 (h.has (Has.l (has_blk _ _ _))) 0 0 0 0 0 false ⟨#[]⟩ none 0 0
section
variable (gs : Nat) (S : Sf) (V : Nat → Value)
set_option maxRecDepth 100000 in
set_option maxHeartbeats 16000000 in
/-- There is no such entry, or it leads nowhere. -/
theorem below_no (gg left : Nat) (n : Nod) (v : Value) (i : Int) (hi : i < n.list.length) (hno : i < 0 ∨ n.level < 1 ∨ ∃ e, n.list[i.toNat]? = some e ∧ leadsB e = false) (w0 w : World) (C : Asn) (hS : Own w0 No w (aEnts n v * (aG gg gs left * (aSf gs S V * C)))) :
    Calls Try.prog 47 #[sPtr gg, .agg (nodCells n v), .int .i64 i] w fun e w' => ∃ v', e = .returned (.tuple #[.agg (spotC 0 Nod.none v'), .int .i64 3]) ∧
      Own w0 No w' (aEnts Nod.none v' * (aG gg gs left * (aSf gs S V * (aEnts n v * C)))) := by
  obtain ⟨A0, c0, rfl⟩ := (show Own w0 No w (Asn.vec 44 3 v n.list.length (cells3 n.list) * _) from hS).vec.slice
  have S0 := Lib.hid (((hS.alloc (nodCells n (.slice A0 n.list.length c0)) 52).alloc (spotC 0 Nod.none (.slice none 0 0)) 98).re (show _ = Asn.blk (w.alloc (.cells (nodCells n (.slice A0 n.list.length c0)) 52)).heap.size 98 (spotC 0 Nod.none (.slice none 0 0)) * (Asn.blk w.heap.size 52 (nodCells n (.slice A0 n.list.length c0)) * (aG gg gs left * (aSf gs S V * (aEnts n (.slice A0 n.list.length c0) * C)))) by ac_rfl))
  unfold spotC sPtr nodCells Nod.none at *
  dsimp only at S0
  rw [show ofL [] = (⟨#[]⟩ : ByteArray) from rfl] at S0
  rw [show (w.alloc (.cells #[.int .i64 n.tree, .int .i64 n.level, .int .i64 n.stamp, .bool n.has, .string (ofL n.high), .int .i64 n.right, .slice A0 n.list.length c0] 52)).heap.size = w.heap.size + 1 by simp] at S0
  clear hS
  have fin : Hid (∀ W, Own w0 No W (Asn.blk (w.heap.size + 1) 98 #[.int .i64 0, .int .i64 0, .int .i64 0, .int .i64 0, .bool false, .string ⟨#[]⟩, .int .i64 0, .slice none 0 0] * (Asn.blk w.heap.size 52 #[.int .i64 n.tree, .int .i64 n.level, .int .i64 n.stamp, .bool n.has, .string (ofL n.high), .int .i64 n.right, .slice A0 n.list.length c0] * (aG gg gs left * (aSf gs S V * (aEnts n (.slice A0 n.list.length c0) * C))))) → Own w0 No W (aEnts ⟨0, 0, 0, false, [], 0, []⟩ (.slice none 0 0) * (aG gg gs left * (aSf gs S V * (aEnts n (.slice A0 n.list.length c0) * C))))) := Lib.hid fun W h => none_ents h.right.right
  by_cases h1 : i < 0
  · have d1 : decide (i < 0) = true := decide_eq_true h1
    clear hno hi
    go_enter Try.func47, Try.ntmps47
    go_upto_region 1 with fail
    obtain ⟨g4, hgz⟩ : ∃ g, g = w.heap.size := ⟨_, rfl⟩
    rw [← hgz] at S0 fin ⊢
    clear hgz
    generalize g4 + 1 = g6 at *
    generalize World.alloc _ _ = w1 at *
    have HST := Lib.hid (store_fail S0.out)
    have S1 := Lib.hid (own_8 S0.out (.int .i64 0) (.int .i64 0) (.int .i64 0) (.int .i64 0) (.bool false) (.string ⟨#[]⟩) (.int .i64 0) (.slice none 0 0))
    clear S0
    go_wp2_with (with_reducible refine step_store rfl rfl (.tmp 6) (.tmp 26) 98 rfl (.pointer (some ⟨g6, 0, none⟩)) (.agg #[.int .i64 0, .int .i64 0, .int .i64 0, .int .i64 0, .bool false, .string ⟨#[]⟩, .int .i64 0, .slice none 0 0]) ?c1 ?c2 _ HST.out ?_)
    try (case c1 => rfl)
    try (case c2 => rfl)
    exact bodyPost_ret (res8 rfl rfl rfl (S1.out.has (Has.l (has_blk _ _ _)))) rfl ⟨.slice none 0 0, rfl, fin.out _ S1.out⟩
  · have d1 : decide (i < 0) = false := decide_eq_false h1
    by_cases h2 : n.level < 1
    · have d2 : decide (n.level < 1) = true := decide_eq_true h2
      clear hno hi
      go_enter Try.func47, Try.ntmps47
      go_upto_region 1 with fail
      obtain ⟨g4, hgz⟩ : ∃ g, g = w.heap.size := ⟨_, rfl⟩
      rw [← hgz] at S0 fin ⊢
      clear hgz
      generalize g4 + 1 = g6 at *
      generalize World.alloc _ _ = w1 at *
      have k1 := (S0.out.right.has (Has.l (has_blk _ _ _))).cell 1
      have HST := Lib.hid (store_fail S0.out)
      have S1 := Lib.hid (own_8 S0.out (.int .i64 0) (.int .i64 0) (.int .i64 0) (.int .i64 0) (.bool false) (.string ⟨#[]⟩) (.int .i64 0) (.slice none 0 0))
      clear S0
      go_wp2_with (with_reducible refine step_store rfl rfl (.tmp 6) (.tmp 26) 98 rfl (.pointer (some ⟨g6, 0, none⟩)) (.agg #[.int .i64 0, .int .i64 0, .int .i64 0, .int .i64 0, .bool false, .string ⟨#[]⟩, .int .i64 0, .slice none 0 0]) ?c1 ?c2 _ HST.out ?_)
      try (case c1 => rfl)
      try (case c2 => rfl)
      exact bodyPost_ret (res8 rfl rfl rfl (S1.out.has (Has.l (has_blk _ _ _)))) rfl ⟨.slice none 0 0, rfl, fin.out _ S1.out⟩
    · have d2 : decide (n.level < 1) = false := decide_eq_false h2
      obtain ⟨e, he, hle⟩ : ∃ e, n.list[i.toNat]? = some e ∧ leadsB e = false := by
        rcases hno with h | h | h
        · exact absurd h h1
        · exact absurd h h2
        · exact h
      obtain ⟨q, rfl⟩ : ∃ q : Nat, i = q := ⟨i.toNat, by omega⟩
      rw [Int.toNat_natCast] at he
      have hq : q < n.list.length := by omega
      obtain ⟨ba, rfl⟩ : ∃ b, A0 = some ⟨b, 0, none⟩ := by
        rcases (show Own w0 No _ (Asn.vec 44 3 (.slice A0 n.list.length c0) n.list.length (cells3 n.list) * C) from S0.out.right.right.right.right).vec.forms with ⟨-, hz⟩ | ⟨g, cap, h, -⟩
        · omega
        · cases h; exact ⟨_, rfl⟩
      have HLd := Lib.hid (fun W => leads_any e W)
      rw [hle] at HLd
      unfold entCells at HLd
      have F : Hid (∀ W, Own w0 No W (Asn.blk (w.heap.size + 1) 98 #[.int .i64 0, .int .i64 0, .int .i64 0, .int .i64 0, .bool false, .string ⟨#[]⟩, .int .i64 0, .slice none 0 0] * (Asn.blk w.heap.size 52 #[.int .i64 n.tree, .int .i64 n.level, .int .i64 n.stamp, .bool n.has, .string (ofL n.high), .int .i64 n.right, .slice (some ⟨ba, 0, none⟩) n.list.length c0] * (aG gg gs left * (aSf gs S V * (aEnts n (.slice (some ⟨ba, 0, none⟩) n.list.length c0) * C))))) → W.cell? ⟨ba, q * 3, none⟩ = some (.string (ofL e.key)) ∧ W.cell? ⟨ba, q * 3 + 1, none⟩ = some (.string (ofL e.val)) ∧ W.cell? ⟨ba, q * 3 + 2, none⟩ = some (.bool e.ghost)) := Lib.hid fun W h => by
        have hv := (show Own w0 No W (Asn.vec 44 3 (.slice (some ⟨ba, 0, none⟩) n.list.length c0) n.list.length (cells3 n.list) * C) from h.right.right.right.right).vec
        have hc := fun j hj => cells3_at n.list q j e he hj
        exact ⟨hv.cell (j := q * 3 + 0) (by rw [hc 0 (by decide)]; rfl), hv.cell (by rw [hc 1 (by decide)]; rfl), hv.cell (by rw [hc 2 (by decide)]; rfl)⟩
      clear hno hle he
      have hiq : (q : Int) < (n.list.length : Int) := by omega
      go_enter Try.func47, Try.ntmps47
      go_upto_region 1 with fail
      obtain ⟨g4, hgz⟩ : ∃ g, g = w.heap.size := ⟨_, rfl⟩
      rw [← hgz] at S0 fin F ⊢
      clear hgz
      generalize g4 + 1 = g6 at *
      generalize World.alloc _ _ = w1 at *
      have k1 := (S0.out.right.has (Has.l (has_blk _ _ _))).cell 1
      have k6 := (S0.out.right.has (Has.l (has_blk _ _ _))).cell 6
      obtain ⟨e0, e1, e2⟩ := F.out _ S0.out
      go_wp2_with fail
      refine (HLd.out _).mono ?_
      rintro r w2 ⟨rfl, hX⟩
      have S1 := Lib.hid (S0.out.below hX)
      clear hX S0 HLd F k1 k6 e0 e1 e2
      have HST := Lib.hid (store_fail S1.out)
      have S2 := Lib.hid (own_8 S1.out (.int .i64 0) (.int .i64 0) (.int .i64 0) (.int .i64 0) (.bool false) (.string ⟨#[]⟩) (.int .i64 0) (.slice none 0 0))
      clear S1
      go_upto_region 2 with fail
      go_wp2_with (with_reducible refine step_store rfl rfl (.tmp 6) (.tmp 26) 98 rfl (.pointer (some ⟨g6, 0, none⟩)) (.agg #[.int .i64 0, .int .i64 0, .int .i64 0, .int .i64 0, .bool false, .string ⟨#[]⟩, .int .i64 0, .slice none 0 0]) ?k1 ?k2 _ HST.out ?_)
      try (case k1 => rfl)
      try (case k2 => rfl)
      exact bodyPost_ret (res8 rfl rfl rfl (S2.out.has (Has.l (has_blk _ _ _)))) rfl ⟨.slice none 0 0, rfl, fin.out _ S2.out⟩
end
end Go.Proofs.Yteiiogaopgfpfaa.Bk
end
