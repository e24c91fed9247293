/- Whether an entry leads somewhere; the node below. -/
import Derived.Test.YthoaangmekkcmaaBkD
namespace Go.Proofs.Ythoaangmekkcmaa.Bk
open Go.ChangeShapes Go.WideShapes Go.ChangeAt Go.RowKit Go.PlainAid Aid Nt Nd Tr
set_option linter.unusedVariables false
set_option linter.unusedSimpArgs false
set_option linter.unusedSectionVars false
theorem ofL_inj {a b : By} (h : ofL a = ofL b) : a = b := by
  have := congrArg ByteArray.toList h
  rw [ofL_toList, ofL_toList] at this
  exact this
set_option maxRecDepth 100000 in
set_option maxHeartbeats 4000000 in
theorem leads_any (e : Ent) (w : World) :
    Calls Try.prog 60 #[.agg (entCells e)] w fun r w' => r = .returned (.bool (leadsB e)) ∧ Below w.heap.size w w' := by
  have S := Lib.hid ((Own.none w).alloc (entCells e) 44).left
  have HCh := Lib.hid (fun W => Child_any e W)
  have HL := Lib.hid (fun W => Lead_any (ofL e.key) (childL e.val) W)
  unfold entCells at *
  go_enter Try.func60, Try.ntmps60
  go_upto_region 1 with fail
  obtain ⟨g, hgz⟩ : ∃ g, g = w.heap.size := ⟨_, rfl⟩
  have HB := Lib.hid ((Own.none w).alloc #[.string (ofL e.key), .string (ofL e.val), .bool e.ghost] 44).bel
  rw [← hgz] at S ⊢
  clear hgz
  generalize World.alloc _ _ = w1 at *
  have F : Hid (∀ W, Own w No W (Asn.blk g 44 #[.string (ofL e.key), .string (ofL e.val), .bool e.ghost]) → W.cell? ⟨g, 0, none⟩ = some (.string (ofL e.key)) ∧ W.cell? ⟨g, 1, none⟩ = some (.string (ofL e.val)) ∧ W.cell? ⟨g, 2, none⟩ = some (.bool e.ghost)) := Lib.hid fun W h => by
    have h := h.has (has_blk _ _ _)
    exact ⟨h.cell 0, h.cell 1, h.cell 2⟩
  have S1 := Lib.hid S.out.drew
  have tA := F.out _ S1.out
  clear S
  have hfd : ∀ (W : World) (x y : ByteArray) (z : Bool), (Instr.field 44 (.agg #[.string x, .string y, .bool z]) 1).run Try.prog W = .ok (.string y) W := fun W x y z => by kernel_rfl
  obtain ⟨q, hq⟩ : ∃ q, q = childL e.val := ⟨_, rfl⟩
  have HQ := Lib.hid hq
  rw [← hq] at HL HCh
  clear hq
  go_region_held3 (fun W : World => W.cell? ⟨g, 0, none⟩ = some (.string (ofL e.key)) ∧ W.cell? ⟨g, 1, none⟩ = some (.string (ofL e.val)) ∧ W.cell? ⟨g, 2, none⟩ = some (.bool e.ghost)) (first | exact tA | exact tB | exact tC) (first | (go_at_call 20; refine (HCh.out _).mono ?_; rintro r w2 ⟨rfl, hX⟩; have S2 := Lib.hid (S1.out.below hX); have tB := F.out _ S2.out) | (go_at_call 57; refine (HL.out _).mono ?_; rintro r w3 ⟨rfl, hX⟩; have S3 := Lib.hid (S2.out.below hX); have tC := F.out _ S3.out))
  have HLB : Hid (((ofL (numZ 2 (q : Int))).toList == (ofL e.val).toList) = leadsB e) := Lib.hid (by
    rw [ofL_toList, ofL_toList, HQ.out]
    unfold leadsB
    by_cases h : numZ 2 ((childL e.val : Nat) : Int) = e.val
    · rw [h]; simp
    · rw [decide_eq_false h]; simpa using h)
  clear tA tB tC F HL HCh
  go_wp2_with fail
  go_returns
  exact ⟨by rw [HLB.out]; rfl, S3.out.bel⟩
theorem cells3_at (l : List Ent) (q j : Nat) (e : Ent) (h : l[q]? = some e) (hj : j < 3) : (cells3 l)[q * 3 + j]? = [Value.string (ofL e.key), .string (ofL e.val), .bool e.ghost][j]? :=
  flatMap_at (fun x : Ent => [Value.string (ofL x.key), .string (ofL x.val), .bool x.ghost]) 3 (fun _ => rfl) l q j e h hj
theorem store_fail {w0 w : World} {O0 : Nat → Prop} {A : Asn} {g : Nat} (h : Own w0 O0 w (Asn.blk g 100 #[.int .i64 0, .int .i64 0, .int .i64 0, .int .i64 0, .bool false, .string ⟨#[]⟩, .int .i64 0, .slice none 0 0] * A)) :
    (Instr.storeAt 100 (.pointer (some ⟨g, 0, none⟩)) (.agg #[.int .i64 0, .int .i64 0, .int .i64 0, .int .i64 0, .bool false, .string ⟨#[]⟩, .int .i64 0, .slice none 0 0])).run Try.prog w = .ok () ((((((((w.setCell ⟨g, 0, none⟩ (.int .i64 0)).setCell ⟨g, 1, none⟩ (.int .i64 0)).setCell ⟨g, 2, none⟩ (.int .i64 0)).setCell ⟨g, 3, none⟩ (.int .i64 0)).setCell ⟨g, 4, none⟩ (.bool false)).setCell ⟨g, 5, none⟩ (.string ⟨#[]⟩)).setCell ⟨g, 6, none⟩ (.int .i64 0)).setCell ⟨g, 7, none⟩ (.slice none 0 0)) :=
  store8 (h.has (Has.l (has_blk _ _ _))) 0 0 0 0 0 false ⟨#[]⟩ none 0 0
section
variable (gs : Nat) (S : Sf) (V : Nat → Value)
set_option maxRecDepth 100000 in
set_option maxHeartbeats 16000000 in
/-- There is no such entry, or it leads nowhere. -/
theorem below_no (gg left : Nat) (n : Nod) (v : Value) (i : Int) (hi : i < n.list.length) (hno : i < 0 ∨ n.level < 1 ∨ ∃ e, n.list[i.toNat]? = some e ∧ leadsB e = false) (w0 w : World) (C : Asn) (hS : Own w0 No w (aEnts n v * (aG gg gs left * (aSf gs S V * C)))) :
    Calls Try.prog 48 #[sPtr gg, .agg (nodCells n v), .int .i64 i] w fun e w' => ∃ v', e = .returned (.tuple #[.agg (spotC 0 Nod.none v'), .int .i64 3]) ∧
      Own w0 No w' (aEnts Nod.none v' * (aG gg gs left * (aSf gs S V * (aEnts n v * C)))) := by
  obtain ⟨A0, c0, rfl⟩ := (show Own w0 No w (Asn.vec 44 3 v n.list.length (cells3 n.list) * _) from hS).vec.slice
  have S0 := Lib.hid (((hS.alloc (nodCells n (.slice A0 n.list.length c0)) 52).alloc (spotC 0 Nod.none (.slice none 0 0)) 100).re (show _ = Asn.blk (w.alloc (.cells (nodCells n (.slice A0 n.list.length c0)) 52)).heap.size 100 (spotC 0 Nod.none (.slice none 0 0)) * (Asn.blk w.heap.size 52 (nodCells n (.slice A0 n.list.length c0)) * (aG gg gs left * (aSf gs S V * (aEnts n (.slice A0 n.list.length c0) * C)))) by ac_rfl))
  unfold spotC sPtr nodCells Nod.none at *
  dsimp only at S0
  rw [show ofL [] = (⟨#[]⟩ : ByteArray) from rfl] at S0
  rw [show (w.alloc (.cells #[.int .i64 n.tree, .int .i64 n.level, .int .i64 n.stamp, .bool n.has, .string (ofL n.high), .int .i64 n.right, .slice A0 n.list.length c0] 52)).heap.size = w.heap.size + 1 by simp] at S0
  clear hS
  have fin : Hid (∀ W, Own w0 No W (Asn.blk (w.heap.size + 1) 100 #[.int .i64 0, .int .i64 0, .int .i64 0, .int .i64 0, .bool false, .string ⟨#[]⟩, .int .i64 0, .slice none 0 0] * (Asn.blk w.heap.size 52 #[.int .i64 n.tree, .int .i64 n.level, .int .i64 n.stamp, .bool n.has, .string (ofL n.high), .int .i64 n.right, .slice A0 n.list.length c0] * (aG gg gs left * (aSf gs S V * (aEnts n (.slice A0 n.list.length c0) * C))))) → Own w0 No W (aEnts ⟨0, 0, 0, false, [], 0, []⟩ (.slice none 0 0) * (aG gg gs left * (aSf gs S V * (aEnts n (.slice A0 n.list.length c0) * C))))) := Lib.hid fun W h => none_ents h.right.right
  by_cases h1 : i < 0
  · have d1 : decide (i < 0) = true := decide_eq_true h1
    clear hno hi
    go_enter Try.func48, Try.ntmps48
    go_upto_region 1 with fail
    obtain ⟨g4, hgz⟩ : ∃ g, g = w.heap.size := ⟨_, rfl⟩
    rw [← hgz] at S0 fin ⊢
    clear hgz
    generalize g4 + 1 = g6 at *
    generalize World.alloc _ _ = w1 at *
    have HST := Lib.hid (store_fail S0.out)
    have S1 := Lib.hid (own_8 S0.out (.int .i64 0) (.int .i64 0) (.int .i64 0) (.int .i64 0) (.bool false) (.string ⟨#[]⟩) (.int .i64 0) (.slice none 0 0))
    clear S0
    go_wp2_with (with_reducible refine step_store rfl rfl (.tmp 6) (.tmp 26) 100 rfl (.pointer (some ⟨g6, 0, none⟩)) (.agg #[.int .i64 0, .int .i64 0, .int .i64 0, .int .i64 0, .bool false, .string ⟨#[]⟩, .int .i64 0, .slice none 0 0]) ?c1 ?c2 _ HST.out ?_)
    try (case c1 => rfl)
    try (case c2 => rfl)
    exact bodyPost_ret (res8 rfl rfl rfl (S1.out.has (Has.l (has_blk _ _ _)))) rfl ⟨.slice none 0 0, rfl, fin.out _ S1.out⟩
  · have d1 : decide (i < 0) = false := decide_eq_false h1
    by_cases h2 : n.level < 1
    · have d2 : decide (n.level < 1) = true := decide_eq_true h2
      clear hno hi
      go_enter Try.func48, Try.ntmps48
      go_upto_region 1 with fail
      obtain ⟨g4, hgz⟩ : ∃ g, g = w.heap.size := ⟨_, rfl⟩
      rw [← hgz] at S0 fin ⊢
      clear hgz
      generalize g4 + 1 = g6 at *
      generalize World.alloc _ _ = w1 at *
      have k1 := (S0.out.right.has (Has.l (has_blk _ _ _))).cell 1
      have HST := Lib.hid (store_fail S0.out)
      have S1 := Lib.hid (own_8 S0.out (.int .i64 0) (.int .i64 0) (.int .i64 0) (.int .i64 0) (.bool false) (.string ⟨#[]⟩) (.int .i64 0) (.slice none 0 0))
      clear S0
      go_wp2_with (with_reducible refine step_store rfl rfl (.tmp 6) (.tmp 26) 100 rfl (.pointer (some ⟨g6, 0, none⟩)) (.agg #[.int .i64 0, .int .i64 0, .int .i64 0, .int .i64 0, .bool false, .string ⟨#[]⟩, .int .i64 0, .slice none 0 0]) ?c1 ?c2 _ HST.out ?_)
      try (case c1 => rfl)
      try (case c2 => rfl)
      exact bodyPost_ret (res8 rfl rfl rfl (S1.out.has (Has.l (has_blk _ _ _)))) rfl ⟨.slice none 0 0, rfl, fin.out _ S1.out⟩
    · have d2 : decide (n.level < 1) = false := decide_eq_false h2
      obtain ⟨e, he, hle⟩ : ∃ e, n.list[i.toNat]? = some e ∧ leadsB e = false := by
        rcases hno with h | h | h
        · exact absurd h h1
        · exact absurd h h2
        · exact h
      obtain ⟨q, rfl⟩ : ∃ q : Nat, i = q := ⟨i.toNat, by omega⟩
      rw [Int.toNat_natCast] at he
      have hq : q < n.list.length := by omega
      obtain ⟨ba, rfl⟩ : ∃ b, A0 = some ⟨b, 0, none⟩ := by
        rcases (show Own w0 No _ (Asn.vec 44 3 (.slice A0 n.list.length c0) n.list.length (cells3 n.list) * C) from S0.out.right.right.right.right).vec.forms with ⟨-, hz⟩ | ⟨g, cap, h, -⟩
        · omega
        · cases h; exact ⟨_, rfl⟩
      have HLd := Lib.hid (fun W => leads_any e W)
      rw [hle] at HLd
      unfold entCells at HLd
      have F : Hid (∀ W, Own w0 No W (Asn.blk (w.heap.size + 1) 100 #[.int .i64 0, .int .i64 0, .int .i64 0, .int .i64 0, .bool false, .string ⟨#[]⟩, .int .i64 0, .slice none 0 0] * (Asn.blk w.heap.size 52 #[.int .i64 n.tree, .int .i64 n.level, .int .i64 n.stamp, .bool n.has, .string (ofL n.high), .int .i64 n.right, .slice (some ⟨ba, 0, none⟩) n.list.length c0] * (aG gg gs left * (aSf gs S V * (aEnts n (.slice (some ⟨ba, 0, none⟩) n.list.length c0) * C))))) → W.cell? ⟨ba, q * 3, none⟩ = some (.string (ofL e.key)) ∧ W.cell? ⟨ba, q * 3 + 1, none⟩ = some (.string (ofL e.val)) ∧ W.cell? ⟨ba, q * 3 + 2, none⟩ = some (.bool e.ghost)) := Lib.hid fun W h => by
        have hv := (show Own w0 No W (Asn.vec 44 3 (.slice (some ⟨ba, 0, none⟩) n.list.length c0) n.list.length (cells3 n.list) * C) from h.right.right.right.right).vec
        have hc := fun j hj => cells3_at n.list q j e he hj
        exact ⟨hv.cell (j := q * 3 + 0) (by rw [hc 0 (by decide)]; rfl), hv.cell (by rw [hc 1 (by decide)]; rfl), hv.cell (by rw [hc 2 (by decide)]; rfl)⟩
      clear hno hle he
      have hiq : (q : Int) < (n.list.length : Int) := by omega
      go_enter Try.func48, Try.ntmps48
      go_upto_region 1 with fail
      obtain ⟨g4, hgz⟩ : ∃ g, g = w.heap.size := ⟨_, rfl⟩
      rw [← hgz] at S0 fin F ⊢
      clear hgz
      generalize g4 + 1 = g6 at *
      generalize World.alloc _ _ = w1 at *
      have k1 := (S0.out.right.has (Has.l (has_blk _ _ _))).cell 1
      have k6 := (S0.out.right.has (Has.l (has_blk _ _ _))).cell 6
      obtain ⟨e0, e1, e2⟩ := F.out _ S0.out
      go_wp2_with fail
      refine (HLd.out _).mono ?_
      rintro r w2 ⟨rfl, hX⟩
      have S1 := Lib.hid (S0.out.below hX)
      clear hX S0 HLd F k1 k6 e0 e1 e2
      have HST := Lib.hid (store_fail S1.out)
      have S2 := Lib.hid (own_8 S1.out (.int .i64 0) (.int .i64 0) (.int .i64 0) (.int .i64 0) (.bool false) (.string ⟨#[]⟩) (.int .i64 0) (.slice none 0 0))
      clear S1
      go_upto_region 2 with fail
      go_wp2_with (with_reducible refine step_store rfl rfl (.tmp 6) (.tmp 26) 100 rfl (.pointer (some ⟨g6, 0, none⟩)) (.agg #[.int .i64 0, .int .i64 0, .int .i64 0, .int .i64 0, .bool false, .string ⟨#[]⟩, .int .i64 0, .slice none 0 0]) ?k1 ?k2 _ HST.out ?_)
      try (case k1 => rfl)
      try (case k2 => rfl)
      exact bodyPost_ret (res8 rfl rfl rfl (S2.out.has (Has.l (has_blk _ _ _)))) rfl ⟨.slice none 0 0, rfl, fin.out _ S2.out⟩
end
end Go.Proofs.Ythoaangmekkcmaa.Bk
