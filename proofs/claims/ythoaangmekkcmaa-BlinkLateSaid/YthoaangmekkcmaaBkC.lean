/- What a guide visits. -/
import Derived.Test.YthoaangmekkcmaaNdS
namespace Go.Proofs.Ythoaangmekkcmaa.Bk
open Go.ChangeShapes Go.WideShapes Go.ChangeAt Go.RowKit Go.PlainAid Aid Nt Nd Tr
set_option linter.unusedVariables false
set_option linter.unusedSimpArgs false
set_option linter.unusedSectionVars false
def pgs (gs : Nat) : Value := .iface 26 (.pointer (some ⟨gs, 0, none⟩))
/-- A guide that may see so many nodes yet. -/
def aG (gg gs left : Nat) : Asn := Asn.blk gg 95 #[pgs gs, .int .i64 (256 - (left : Int))]
def spotC (p : Int) (n : Nod) (v : Value) : Array Value := #[.int .i64 p, .int .i64 n.tree, .int .i64 n.level, .int .i64 n.stamp, .bool n.has, .string (ofL n.high), .int .i64 n.right, v]
section
variable (gs : Nat) (S : Sf) (V : Nat → Value)
set_option maxRecDepth 100000 in
set_option maxHeartbeats 8000000 in
theorem store8 {w : World} {g : Nat} {a0 a1 a2 a3 a4 a5 a6 a7 : Value} (h : Blk w g 100 #[a0, a1, a2, a3, a4, a5, a6, a7]) (bx b0 b1 b2 b5 : Int) (b3 : Bool) (b4 : ByteArray) (A : Option Addr) (m c : Nat) :
    (Instr.storeAt 100 (.pointer (some ⟨g, 0, none⟩)) (.agg #[.int .i64 bx, .int .i64 b0, .int .i64 b1, .int .i64 b2, .bool b3, .string b4, .int .i64 b5, .slice A m c])).run Try.prog w =
      .ok () ((((((((w.setCell ⟨g, 0, none⟩ (.int .i64 bx)).setCell ⟨g, 1, none⟩ (.int .i64 b0)).setCell ⟨g, 2, none⟩ (.int .i64 b1)).setCell ⟨g, 3, none⟩ (.int .i64 b2)).setCell ⟨g, 4, none⟩ (.bool b3)).setCell ⟨g, 5, none⟩ (.string b4)).setCell ⟨g, 6, none⟩ (.int .i64 b5)).setCell ⟨g, 7, none⟩ (.slice A m c)) := by
  have d0 := h.cell 0
  have d1 := h.cell 1
  have d2 := h.cell 2
  have d3 := h.cell 3
  have d4 := h.cell 4
  have d5 := h.cell 5
  have d6 := h.cell 6
  have d7 := h.cell 7
  have f0 := h.free 0
  have f1 := h.free 1
  have f2 := h.free 2
  have f3 := h.free 3
  have f4 := h.free 4
  have f5 := h.free 5
  have f6 := h.free 6
  have f7 := h.free 7
  clear h
  go_simp
theorem own_8 {w0 w : World} {O0 : Nat → Prop} {A : Asn} {g : Nat} {T : TypeId} {a0 a1 a2 a3 a4 a5 a6 a7 : Value} (h : Own w0 O0 w (Asn.blk g T #[a0, a1, a2, a3, a4, a5, a6, a7] * A)) (b0 b1 b2 b3 b4 b5 b6 b7 : Value) :
    Own w0 O0 ((((((((w.setCell ⟨g, 0, none⟩ b0).setCell ⟨g, 1, none⟩ b1).setCell ⟨g, 2, none⟩ b2).setCell ⟨g, 3, none⟩ b3).setCell ⟨g, 4, none⟩ b4).setCell ⟨g, 5, none⟩ b5).setCell ⟨g, 6, none⟩ b6).setCell ⟨g, 7, none⟩ b7) (Asn.blk g T #[b0, b1, b2, b3, b4, b5, b6, b7] * A) := by
  have := (((((((h.set (Sets.l (sets_blk g T _ 0 b0))).set (Sets.l (sets_blk g T _ 1 b1))).set (Sets.l (sets_blk g T _ 2 b2))).set (Sets.l (sets_blk g T _ 3 b3))).set (Sets.l (sets_blk g T _ 4 b4))).set (Sets.l (sets_blk g T _ 5 b5))).set (Sets.l (sets_blk g T _ 6 b6))).set (Sets.l (sets_blk g T _ 7 b7))
  simpa only [List.setIfInBounds_toArray, List.set_cons_zero, List.set_cons_succ] using this
set_option maxRecDepth 100000 in
set_option maxHeartbeats 8000000 in
theorem res8 {fn : Func} {x y : Nat} {tm : Array Value} {w : World} {g : Nat} {a0 a1 a2 a3 a4 a5 a6 a7 v1 : Value} (hf : fn.results = #[.cell x 100, .tmp y]) (hx : tm[x]?.getD undef = .pointer (some ⟨g, 0, none⟩)) (hy : tm[y]?.getD undef = v1)
    (hB : Blk w g 100 #[a0, a1, a2, a3, a4, a5, a6, a7]) : (results fn tm).run Try.prog w = .ok (.tuple #[.agg #[a0, a1, a2, a3, a4, a5, a6, a7], v1]) w := by
  have c0 := hB.cell 0
  have c1 := hB.cell 1
  have c2 := hB.cell 2
  have c3 := hB.cell 3
  have c4 := hB.cell 4
  have c5 := hB.cell 5
  have c6 := hB.cell 6
  have c7 := hB.cell 7
  clear hB
  unfold results
  rw [hf]
  simp [go_sem, hx, hy, c0, c1, c2, c3, c4, c5, c6, c7]
set_option maxRecDepth 100000 in
set_option maxHeartbeats 8000000 in
theorem visit_zero (gg : Nat) (p : Int) (w0 w : World) (C : Asn) (hS : Own w0 No w (aG gg gs 0 * (aSf gs S V * C))) :
    Calls Try.prog 41 #[sPtr gg, .int .i64 p] w fun e w' => ∃ v, e = .returned (.tuple #[.agg (spotC 0 Nod.none v), .int .i64 3]) ∧
      Own w0 No w' (aEnts Nod.none v * (aG gg gs 0 * (aSf gs S V * C))) := by
  have S0 := Lib.hid (hS.alloc (spotC 0 Nod.none (.slice none 0 0)) 100)
  unfold spotC Nod.none aG pgs sPtr at *
  dsimp only at S0
  rw [show ofL [] = (⟨#[]⟩ : ByteArray) from rfl] at S0
  clear hS
  go_enter Try.func41, Try.ntmps41
  go_upto_region 1 with fail
  obtain ⟨g4, hgz⟩ : ∃ g, g = w.heap.size := ⟨_, rfl⟩
  rw [← hgz] at S0 ⊢
  clear hgz
  generalize w.alloc _ = w1 at *
  have c0 := (S0.out.right.has (Has.l (has_blk _ _ _))).cell 0
  have c1 := (S0.out.right.has (Has.l (has_blk _ _ _))).cell 1
  have f1 := (S0.out.right.has (Has.l (has_blk _ _ _))).free 1
  have HST := Lib.hid (store8 (S0.out.has (Has.l (has_blk _ _ _))) 0 0 0 0 0 false ⟨#[]⟩ none 0 0)
  have S1 := Lib.hid (own_8 S0.out (.int .i64 0) (.int .i64 0) (.int .i64 0) (.int .i64 0) (.bool false) (.string ⟨#[]⟩) (.int .i64 0) (.slice none 0 0))
  clear S0
  go_wp2_with (with_reducible refine step_store rfl rfl (.tmp 4) (.tmp 19) 100 rfl (.pointer (some ⟨g4, 0, none⟩)) (.agg #[.int .i64 0, .int .i64 0, .int .i64 0, .int .i64 0, .bool false, .string ⟨#[]⟩, .int .i64 0, .slice none 0 0]) ?c1 ?c2 _ HST.out ?_)
  try (case c1 => rfl)
  try (case c2 => rfl)
  exact bodyPost_ret (res8 rfl rfl rfl (S1.out.has (Has.l (has_blk _ _ _)))) rfl ⟨.slice none 0 0, rfl, none_ents S1.out.right⟩
set_option maxRecDepth 100000 in
set_option maxHeartbeats 8000000 in
theorem visit_none (hs : Small S) (gg l : Nat) (hl : l + 1 ≤ 256) (p : Int) (hp : at_ S p = none) (w0 w : World) (C : Asn) (hS : Own w0 No w (aG gg gs (l + 1) * (aSf gs S V * C))) :
    Calls Try.prog 41 #[sPtr gg, .int .i64 p] w fun e w' => ∃ v, e = .returned (.tuple #[.agg (spotC 0 Nod.none v), .int .i64 1]) ∧
      Own w0 No w' (aEnts Nod.none v * (aG gg gs l * (aSf gs S V * C))) := by
  have S0 := Lib.hid (hS.alloc (spotC 0 Nod.none (.slice none 0 0)) 100)
  unfold spotC Nod.none aG pgs sPtr at *
  dsimp only at S0
  rw [show ofL [] = (⟨#[]⟩ : ByteArray) from rfl] at S0
  clear hS
  obtain ⟨sn, hsn⟩ : ∃ sn : Int, sn = 256 - ((l + 1 : Nat) : Int) := ⟨_, rfl⟩
  rw [← hsn] at S0
  have hn0 : 0 ≤ sn := by omega
  have hn1 : sn < 256 := by omega
  have hne : (sn == 256) = false := beq_eq_false_iff_ne.2 (by omega)
  have HSN : Hid (256 - (l : Int) = sn + 1) := Lib.hid (by omega)
  clear hsn
  have hm : ∀ w : World, (method 93 26 (.pointer (some ⟨gs, 0, none⟩)) "Node").run Try.prog w = .ok (34, .pointer (some ⟨gs, 0, none⟩)) w := fun _ => by kernel_rfl
  rw [HSN.out]
  clear HSN
  go_enter Try.func41, Try.ntmps41
  go_upto_region 1 with fail
  obtain ⟨g4, hgz⟩ : ∃ g, g = w.heap.size := ⟨_, rfl⟩
  rw [← hgz] at S0 ⊢
  clear hgz
  generalize w.alloc _ = w1 at *
  have c0 := (S0.out.right.has (Has.l (has_blk _ _ _))).cell 0
  have c1 := (S0.out.right.has (Has.l (has_blk _ _ _))).cell 1
  have f1 := (S0.out.right.has (Has.l (has_blk _ _ _))).free 1
  go_upto_region 6 with fail
  have S1 := Lib.hid ((S0.out.set (Sets.r (Sets.l (sets_blk gg 95 _ 1 (.int .i64 (sn + 1)))))))
  simp only [List.setIfInBounds_toArray, List.set_cons_zero, List.set_cons_succ] at S1
  clear S0 c0 c1 f1
  generalize w1.setCell _ _ = w2 at *
  have c0 := (S1.out.right.has (Has.l (has_blk _ _ _))).cell 0
  have HN := Lib.hid (Node_any gs S V hs p w0 w2 _ (S1.out.re (show _ = aSf gs S V * (Asn.blk g4 100 #[.int .i64 0, .int .i64 0, .int .i64 0, .int .i64 0, .bool false, .string ⟨#[]⟩, .int .i64 0, .slice none 0 0] * (Asn.blk gg 95 #[.iface 26 (.pointer (some ⟨gs, 0, none⟩)), .int .i64 (sn + 1)] * C)) by ac_rfl)))
  unfold sPtr nodeR nodCells at HN
  rw [hp] at HN
  unfold Nod.none at *
  dsimp only at *
  rw [show ofL [] = (⟨#[]⟩ : ByteArray) from rfl] at *
  go_wp2_with fail
  refine HN.out.mono ?_
  rintro e w3 ⟨v, rfl, hX⟩
  obtain ⟨A2, c2, rfl⟩ := (show Own w0 No w3 (Asn.vec 44 3 v ([] : List Ent).length (cells3 []) * _) from hX).vec.slice
  have S2 := Lib.hid (hX.right.re (show _ = Asn.blk g4 100 #[.int .i64 0, .int .i64 0, .int .i64 0, .int .i64 0, .bool false, .string ⟨#[]⟩, .int .i64 0, .slice none 0 0] * (Asn.blk gg 95 #[.iface 26 (.pointer (some ⟨gs, 0, none⟩)), .int .i64 (sn + 1)] * (aSf gs S V * C)) by ac_rfl))
  have HST := Lib.hid (fun W (h : Own w0 No W (Asn.blk g4 100 #[.int .i64 0, .int .i64 0, .int .i64 0, .int .i64 0, .bool false, .string ⟨#[]⟩, .int .i64 0, .slice none 0 0] * (Asn.blk gg 95 #[.iface 26 (.pointer (some ⟨gs, 0, none⟩)), .int .i64 (sn + 1)] * (aSf gs S V * C)))) => store8 (h.has (Has.l (has_blk _ _ _))) 0 0 0 0 0 false ⟨#[]⟩ none 0 0)
  clear hX HN S1 c0
  go_upto_region 8 with fail
  have S3 := Lib.hid (S2.out.below (blA (Below.refl _ _) (.cells #[.int .i64 0, .int .i64 0, .int .i64 0, .bool false, .string ⟨#[]⟩, .int .i64 0, .slice A2 0 c2] 52)))
  have HST2 := Lib.hid (HST.out _ S3.out)
  have S4 := Lib.hid (own_8 S3.out (.int .i64 0) (.int .i64 0) (.int .i64 0) (.int .i64 0) (.bool false) (.string ⟨#[]⟩) (.int .i64 0) (.slice none 0 0))
  clear HST S2 S3
  go_wp2_with (with_reducible refine step_store rfl rfl (.tmp 4) (.tmp 38) 100 rfl (.pointer (some ⟨g4, 0, none⟩)) (.agg #[.int .i64 0, .int .i64 0, .int .i64 0, .int .i64 0, .bool false, .string ⟨#[]⟩, .int .i64 0, .slice none 0 0]) ?c1 ?c2 _ HST2.out ?_)
  try (case c1 => rfl)
  try (case c2 => rfl)
  exact bodyPost_ret (res8 rfl rfl rfl (S4.out.has (Has.l (has_blk _ _ _)))) rfl ⟨.slice none 0 0, rfl, none_ents S4.out.right⟩
set_option maxRecDepth 100000 in
set_option maxHeartbeats 8000000 in
theorem visit_some (hs : Small S) (gg l : Nat) (hl : l + 1 ≤ 256) (p : Int) (n : Nod) (hp : at_ S p = some n) (w0 w : World) (C : Asn) (hS : Own w0 No w (aG gg gs (l + 1) * (aSf gs S V * C))) :
    Calls Try.prog 41 #[sPtr gg, .int .i64 p] w fun e w' => ∃ v, e = .returned (.tuple #[.agg (spotC p n v), .int .i64 0]) ∧
      Own w0 No w' (aEnts n v * (aG gg gs l * (aSf gs S V * C))) := by
  have S0 := Lib.hid (hS.alloc (spotC 0 Nod.none (.slice none 0 0)) 100)
  unfold spotC Nod.none aG pgs sPtr at *
  dsimp only at S0
  rw [show ofL [] = (⟨#[]⟩ : ByteArray) from rfl] at S0
  clear hS
  obtain ⟨sn, hsn⟩ : ∃ sn : Int, sn = 256 - ((l + 1 : Nat) : Int) := ⟨_, rfl⟩
  rw [← hsn] at S0
  have hn0 : 0 ≤ sn := by omega
  have hn1 : sn < 256 := by omega
  have hne : (sn == 256) = false := beq_eq_false_iff_ne.2 (by omega)
  have HSN : Hid (256 - (l : Int) = sn + 1) := Lib.hid (by omega)
  clear hsn
  have hm : ∀ w : World, (method 93 26 (.pointer (some ⟨gs, 0, none⟩)) "Node").run Try.prog w = .ok (34, .pointer (some ⟨gs, 0, none⟩)) w := fun _ => by kernel_rfl
  rw [HSN.out]
  clear HSN
  go_enter Try.func41, Try.ntmps41
  go_upto_region 1 with fail
  obtain ⟨g4, hgz⟩ : ∃ g, g = w.heap.size := ⟨_, rfl⟩
  rw [← hgz] at S0 ⊢
  clear hgz
  generalize w.alloc _ = w1 at *
  have c0 := (S0.out.right.has (Has.l (has_blk _ _ _))).cell 0
  have c1 := (S0.out.right.has (Has.l (has_blk _ _ _))).cell 1
  have f1 := (S0.out.right.has (Has.l (has_blk _ _ _))).free 1
  go_upto_region 6 with fail
  have S1 := Lib.hid ((S0.out.set (Sets.r (Sets.l (sets_blk gg 95 _ 1 (.int .i64 (sn + 1)))))))
  simp only [List.setIfInBounds_toArray, List.set_cons_zero, List.set_cons_succ] at S1
  clear S0 c0 c1 f1
  generalize w1.setCell _ _ = w2 at *
  have c0 := (S1.out.right.has (Has.l (has_blk _ _ _))).cell 0
  have HN := Lib.hid (Node_any gs S V hs p w0 w2 _ (S1.out.re (show _ = aSf gs S V * (Asn.blk g4 100 #[.int .i64 0, .int .i64 0, .int .i64 0, .int .i64 0, .bool false, .string ⟨#[]⟩, .int .i64 0, .slice none 0 0] * (Asn.blk gg 95 #[.iface 26 (.pointer (some ⟨gs, 0, none⟩)), .int .i64 (sn + 1)] * C)) by ac_rfl)))
  unfold sPtr nodeR nodCells at HN
  rw [hp] at HN
  dsimp only at HN
  go_wp2_with fail
  refine HN.out.mono ?_
  rintro e w3 ⟨v, rfl, hX⟩
  obtain ⟨A2, c2, rfl⟩ := (show Own w0 No w3 (Asn.vec 44 3 v n.list.length (cells3 n.list) * _) from hX).vec.slice
  have S2 := Lib.hid ((hX.alloc #[.int .i64 n.tree, .int .i64 n.level, .int .i64 n.stamp, .bool n.has, .string (ofL n.high), .int .i64 n.right, .slice A2 n.list.length c2] 52).right.re (show _ = Asn.blk g4 100 #[.int .i64 0, .int .i64 0, .int .i64 0, .int .i64 0, .bool false, .string ⟨#[]⟩, .int .i64 0, .slice none 0 0] * (aEnts n (.slice A2 n.list.length c2) * (Asn.blk gg 95 #[.iface 26 (.pointer (some ⟨gs, 0, none⟩)), .int .i64 (sn + 1)] * (aSf gs S V * C))) by ac_rfl))
  clear hX HN S1 c0
  go_upto_region 9 with fail
  have HST2 := Lib.hid (store8 (S2.out.has (Has.l (has_blk _ _ _))) p n.tree n.level n.stamp n.right n.has (ofL n.high) A2 n.list.length c2)
  have S4 := Lib.hid (own_8 S2.out (.int .i64 p) (.int .i64 n.tree) (.int .i64 n.level) (.int .i64 n.stamp) (.bool n.has) (.string (ofL n.high)) (.int .i64 n.right) (.slice A2 n.list.length c2))
  clear S2
  go_wp2_with (with_reducible refine step_store rfl rfl (.tmp 4) (.tmp 42) 100 rfl (.pointer (some ⟨g4, 0, none⟩)) (.agg #[.int .i64 p, .int .i64 n.tree, .int .i64 n.level, .int .i64 n.stamp, .bool n.has, .string (ofL n.high), .int .i64 n.right, .slice A2 n.list.length c2]) ?c1 ?c2 _ HST2.out ?_)
  try (case c1 => rfl)
  try (case c2 => rfl)
  exact bodyPost_ret (res8 rfl rfl rfl (S4.out.has (Has.l (has_blk _ _ _)))) rfl ⟨.slice A2 n.list.length c2, rfl, S4.out.right⟩
set_option maxHeartbeats 1000000 in
theorem visit_any (hs : Small S) (gg left : Nat) (hl : left ≤ 256) (p : Int) (w0 w : World) (C : Asn) (hS : Own w0 No w (aG gg gs left * (aSf gs S V * C))) :
    Calls Try.prog 41 #[sPtr gg, .int .i64 p] w fun e w' => ∃ v, e = .returned (.tuple #[.agg (spotC (vis S left p).pg (vis S left p).nd v), .int .i64 (vis S left p).err]) ∧
      Own w0 No w' (aEnts (vis S left p).nd v * (aG gg gs (vis S left p).left * (aSf gs S V * C))) := by
  cases left with
  | zero => exact visit_zero gs S V gg p w0 w C hS
  | succ l =>
    rw [vis_succ]
    cases hp : at_ S p with
    | none => exact visit_none gs S V hs gg l hl p hp w0 w C hS
    | some n => exact visit_some gs S V hs gg l hl p n hp w0 w C hS
end
end Go.Proofs.Ythoaangmekkcmaa.Bk
