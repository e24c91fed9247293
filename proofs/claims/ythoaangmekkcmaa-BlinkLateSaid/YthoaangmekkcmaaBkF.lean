/- Texts of ours, joined. -/
import Derived.Test.YthoaangmekkcmaaBkE

-- joined
section
namespace Go.Proofs.Ythoaangmekkcmaa.Bk
open Go.ChangeShapes Go.WideShapes Go.ChangeAt Go.RowKit Go.PlainAid Aid Nt Nd Tr
set_option linter.unusedVariables false
set_option linter.unusedSimpArgs false
set_option linter.unusedSectionVars false
section
variable (gs : Nat) (S : Sf) (V : Nat → Value)
set_option maxRecDepth 100000 in
set_option maxHeartbeats 16000000 in
theorem below_yes (hs : Small S) (gg left : Nat) (hl : left ≤ 256) (n : Nod) (v : Value) (q : Nat) (e : Ent) (he : n.list[q]? = some e) (hlv : 1 ≤ n.level) (hlv2 : n.level ≤ 9223372036854775807) (hle : leadsB e = true) (w0 w : World) (C : Asn) (hS : Own w0 No w (aEnts n v * (aG gg gs left * (aSf gs S V * C)))) :
    Calls Try.prog 48 #[sPtr gg, .agg (nodCells n v), .int .i64 (q : Int)] w fun e w' => ∃ v', e = .returned (.tuple #[.agg (spotC (blw S left n q).pg (blw S left n q).nd v'), .int .i64 (blw S left n q).err]) ∧
      Own w0 No w' (aEnts (blw S left n q).nd v' * (aG gg gs (blw S left n q).left * (aSf gs S V * (aEnts n v * C)))) := by
  have hq : q < n.list.length := (List.getElem?_eq_some_iff.1 he).1
  obtain ⟨A0, c0, rfl⟩ := (show Own w0 No w (Asn.vec 44 3 v n.list.length (cells3 n.list) * _) from hS).vec.slice
  obtain ⟨ba, rfl⟩ : ∃ b, A0 = some ⟨b, 0, none⟩ := by
    rcases (show Own w0 No _ (Asn.vec 44 3 (.slice A0 n.list.length c0) n.list.length (cells3 n.list) * _) from hS).vec.forms with ⟨-, hz⟩ | ⟨g, cap, h, -⟩
    · omega
    · cases h; exact ⟨_, rfl⟩
  obtain ⟨x, hx⟩ : ∃ x, x = vis S left (childL e.val) := ⟨_, rfl⟩
  have hb : blw S left n q = if x.err = 0 then (if x.nd.level = n.level - 1 then x else no x.left 3) else no x.left x.err := by
    unfold blw
    rw [if_neg (by omega), Int.toNat_natCast, he]
    dsimp only
    rw [if_pos hle, hx]
  rw [hb]
  clear hb
  have hvb : x.err ≠ 0 → x.pg = 0 ∧ x.nd = Nod.none := fun h => by
    have := vis_bad S left (childL e.val) (by rw [← hx]; exact h)
    rw [← hx] at this
    rw [this]; exact ⟨rfl, rfl⟩
  have HV := Lib.hid (fun W C h => visit_any gs S V hs gg left hl (childL e.val) w0 W C h)
  rw [← hx] at HV
  have S0 := Lib.hid (((hS.alloc (nodCells n (.slice (some ⟨ba, 0, none⟩) n.list.length c0)) 52).alloc (spotC 0 Nod.none (.slice none 0 0)) 100).re (show _ = Asn.blk (w.alloc (.cells (nodCells n (.slice (some ⟨ba, 0, none⟩) n.list.length c0)) 52)).heap.size 100 (spotC 0 Nod.none (.slice none 0 0)) * (Asn.blk w.heap.size 52 (nodCells n (.slice (some ⟨ba, 0, none⟩) n.list.length c0)) * (aG gg gs left * (aSf gs S V * (aEnts n (.slice (some ⟨ba, 0, none⟩) n.list.length c0) * C)))) by ac_rfl))
  have HND : Hid (Nod.none = ⟨0, 0, 0, false, [], 0, []⟩) := Lib.hid rfl
  unfold spotC sPtr nodCells no at *
  unfold Nod.none at S0
  dsimp only at S0
  rw [show ofL [] = (⟨#[]⟩ : ByteArray) from rfl] at S0
  rw [show (w.alloc (.cells #[.int .i64 n.tree, .int .i64 n.level, .int .i64 n.stamp, .bool n.has, .string (ofL n.high), .int .i64 n.right, .slice (some ⟨ba, 0, none⟩) n.list.length c0] 52)).heap.size = w.heap.size + 1 by simp] at S0
  clear hS hx
  have HLd := Lib.hid (fun W => leads_any e W)
  have HCh := Lib.hid (fun W => Child_any e W)
  rw [hle] at HLd
  unfold entCells at HLd HCh
  obtain ⟨ch, hch⟩ : ∃ ch, ch = childL e.val := ⟨_, rfl⟩
  rw [← hch] at HV HCh
  have F : Hid (∀ W, Own w0 No W (Asn.blk (w.heap.size + 1) 100 #[.int .i64 0, .int .i64 0, .int .i64 0, .int .i64 0, .bool false, .string ⟨#[]⟩, .int .i64 0, .slice none 0 0] * (Asn.blk w.heap.size 52 #[.int .i64 n.tree, .int .i64 n.level, .int .i64 n.stamp, .bool n.has, .string (ofL n.high), .int .i64 n.right, .slice (some ⟨ba, 0, none⟩) n.list.length c0] * (aG gg gs left * (aSf gs S V * (aEnts n (.slice (some ⟨ba, 0, none⟩) n.list.length c0) * C))))) → (W.cell? ⟨w.heap.size, 1, none⟩ = some (.int .i64 n.level) ∧ W.cell? ⟨w.heap.size, 6, none⟩ = some (.slice (some ⟨ba, 0, none⟩) n.list.length c0)) ∧ W.cell? ⟨ba, q * 3, none⟩ = some (.string (ofL e.key)) ∧ W.cell? ⟨ba, q * 3 + 1, none⟩ = some (.string (ofL e.val)) ∧ W.cell? ⟨ba, q * 3 + 2, none⟩ = some (.bool e.ghost)) := Lib.hid fun W h => by
    have hv := (show Own w0 No W (Asn.vec 44 3 (.slice (some ⟨ba, 0, none⟩) n.list.length c0) n.list.length (cells3 n.list) * C) from h.right.right.right.right).vec
    have hc := fun j hj => cells3_at n.list q j e he hj
    have hb := h.right.has (Has.l (has_blk _ _ _))
    exact ⟨⟨hb.cell 1, hb.cell 6⟩, hv.cell (j := q * 3 + 0) (by rw [hc 0 (by decide)]; rfl), hv.cell (by rw [hc 1 (by decide)]; rfl), hv.cell (by rw [hc 2 (by decide)]; rfl)⟩
  have HLE := Lib.hid hle
  have HCH := Lib.hid hch
  clear hle he hch
  have hiq : (q : Int) < (n.list.length : Int) := by omega
  have d1 : decide ((q : Int) < 0) = false := decide_eq_false (by omega)
  have d2 : decide (n.level < 1) = false := decide_eq_false (by omega)
  obtain ⟨r, hr⟩ : ∃ r, r = if x.err = 0 then (if x.nd.level = n.level - 1 then x else (⟨x.left, 3, 0, ⟨0, 0, 0, false, [], 0, []⟩⟩ : Vi)) else ⟨x.left, x.err, 0, ⟨0, 0, 0, false, [], 0, []⟩⟩ := ⟨_, rfl⟩
  have HR := Lib.hid hr
  have HE0 := Lib.hid HND.out
  rw [HND.out, ← hr]
  clear hr
  go_enter Try.func48, Try.ntmps48
  go_upto_region 1 with fail
  obtain ⟨g4, hgz⟩ : ∃ g, g = w.heap.size := ⟨_, rfl⟩
  rw [← hgz] at S0 F ⊢
  clear hgz
  generalize g4 + 1 = g6 at *
  generalize World.alloc _ _ = w1 at *
  obtain ⟨⟨k1, k6⟩, e0, e1, e2⟩ := F.out _ S0.out
  go_wp2_with fail
  refine (HLd.out _).mono ?_
  rintro r1 w2 ⟨rfl, hX⟩
  have S1 := Lib.hid (S0.out.below hX)
  clear hX S0 HLd k1 k6 e0 e1 e2
  obtain ⟨⟨k1, k6⟩, e0, e1, e2⟩ := F.out _ S1.out
  go_wp2_with fail
  refine (HCh.out _).mono ?_
  rintro r1 w3 ⟨rfl, hX⟩
  have S2 := Lib.hid (S1.out.below hX)
  clear hX S1 HCh k1 k6 e0 e1 e2
  have HVv := Lib.hid (HV.out w3 _ (S2.out.re (show _ = aG gg gs left * (aSf gs S V * (Asn.blk g6 100 #[.int .i64 0, .int .i64 0, .int .i64 0, .int .i64 0, .bool false, .string ⟨#[]⟩, .int .i64 0, .slice none 0 0] * (Asn.blk g4 52 #[.int .i64 n.tree, .int .i64 n.level, .int .i64 n.stamp, .bool n.has, .string (ofL n.high), .int .i64 n.right, .slice (some ⟨ba, 0, none⟩) n.list.length c0] * (aEnts n (.slice (some ⟨ba, 0, none⟩) n.list.length c0) * C)))) by ac_rfl)))
  clear F HV
  go_wp2_with fail
  refine HVv.out.mono ?_
  rintro r1 w4 ⟨v3, rfl, hX⟩
  obtain ⟨A3, c3, rfl⟩ := (show Own w0 No w4 (Asn.vec 44 3 v3 x.nd.list.length (cells3 x.nd.list) * _) from hX).vec.slice
  have S3 := Lib.hid ((hX.alloc #[.int .i64 x.pg, .int .i64 x.nd.tree, .int .i64 x.nd.level, .int .i64 x.nd.stamp, .bool x.nd.has, .string (ofL x.nd.high), .int .i64 x.nd.right, .slice A3 x.nd.list.length c3] 100).re (show _ = Asn.blk g6 100 #[.int .i64 0, .int .i64 0, .int .i64 0, .int .i64 0, .bool false, .string ⟨#[]⟩, .int .i64 0, .slice none 0 0] * (Asn.blk g4 52 #[.int .i64 n.tree, .int .i64 n.level, .int .i64 n.stamp, .bool n.has, .string (ofL n.high), .int .i64 n.right, .slice (some ⟨ba, 0, none⟩) n.list.length c0] * (Asn.blk w4.heap.size 100 #[.int .i64 x.pg, .int .i64 x.nd.tree, .int .i64 x.nd.level, .int .i64 x.nd.stamp, .bool x.nd.has, .string (ofL x.nd.high), .int .i64 x.nd.right, .slice A3 x.nd.list.length c3] * (aEnts x.nd (.slice A3 x.nd.list.length c3) * (aG gg gs x.left * (aSf gs S V * (aEnts n (.slice (some ⟨ba, 0, none⟩) n.list.length c0) * C)))))) by ac_rfl))
  clear hX S2 HVv
  go_upto_region 4 with fail
  obtain ⟨g8, hgz⟩ : ∃ g, g = w4.heap.size := ⟨_, rfl⟩
  rw [← hgz] at S3 ⊢
  clear hgz
  generalize World.alloc _ _ = w5 at *
  have fin : Hid (∀ W, Own w0 No W (Asn.blk g6 100 #[.int .i64 0, .int .i64 0, .int .i64 0, .int .i64 0, .bool false, .string ⟨#[]⟩, .int .i64 0, .slice none 0 0] * (Asn.blk g4 52 #[.int .i64 n.tree, .int .i64 n.level, .int .i64 n.stamp, .bool n.has, .string (ofL n.high), .int .i64 n.right, .slice (some ⟨ba, 0, none⟩) n.list.length c0] * (Asn.blk g8 100 #[.int .i64 x.pg, .int .i64 x.nd.tree, .int .i64 x.nd.level, .int .i64 x.nd.stamp, .bool x.nd.has, .string (ofL x.nd.high), .int .i64 x.nd.right, .slice A3 x.nd.list.length c3] * (aEnts x.nd (.slice A3 x.nd.list.length c3) * (aG gg gs x.left * (aSf gs S V * (aEnts n (.slice (some ⟨ba, 0, none⟩) n.list.length c0) * C))))))) → Own w0 No W (aEnts ⟨0, 0, 0, false, [], 0, []⟩ (.slice none 0 0) * (aG gg gs x.left * (aSf gs S V * (aEnts n (.slice (some ⟨ba, 0, none⟩) n.list.length c0) * C))))) := Lib.hid fun W h => none_ents h.right.right.right.right
  by_cases he : x.err = 0
  · have he0 : ((x.err : Nat) : Int) = 0 := by rw [he]; rfl
    have hrr := HR.out
    rw [if_pos he] at hrr
    rw [he0]
    obtain ⟨y0, y1, y2, y3, y4, y5, y6, y7⟩ := eight_of (S3.out.has (Has.r (Has.r (Has.l (has_blk _ _ _)))))
    have k1 := (S3.out.right.has (Has.l (has_blk _ _ _))).cell 1
    have hwl : IntKind.i64.wrap (n.level - 1) = n.level - 1 := by rw [IntKind.wrap_i64]; omega
    by_cases hlx : x.nd.level = n.level - 1
    · have hll : (x.nd.level == n.level - 1) = true := beq_iff_eq.2 hlx
      rw [if_pos hlx] at hrr
      have hrr := hrr.symm
      subst hrr
      have HLX := Lib.hid hlx
      have HST := Lib.hid (store8 (S3.out.has (Has.l (has_blk _ _ _))) x.pg x.nd.tree x.nd.level x.nd.stamp x.nd.right x.nd.has (ofL x.nd.high) A3 x.nd.list.length c3)
      have S4 := Lib.hid (own_8 S3.out (.int .i64 x.pg) (.int .i64 x.nd.tree) (.int .i64 x.nd.level) (.int .i64 x.nd.stamp) (.bool x.nd.has) (.string (ofL x.nd.high)) (.int .i64 x.nd.right) (.slice A3 x.nd.list.length c3))
      clear S3 fin hlx he
      go_wp2_with (with_reducible refine step_store rfl rfl (.tmp 6) (.tmp 50) 100 rfl (.pointer (some ⟨g6, 0, none⟩)) (.agg #[.int .i64 x.pg, .int .i64 x.nd.tree, .int .i64 x.nd.level, .int .i64 x.nd.stamp, .bool x.nd.has, .string (ofL x.nd.high), .int .i64 x.nd.right, .slice A3 x.nd.list.length c3]) ?c1 ?c2 _ HST.out ?_)
      try (case c1 => rfl)
      try (case c2 => rfl)
      refine bodyPost_ret (res8 rfl rfl rfl (S4.out.has (Has.l (has_blk _ _ _)))) rfl ⟨_, ?_, S4.out.right.right.right⟩
      rfl
    · have hll : (x.nd.level == n.level - 1) = false := beq_eq_false_iff_ne.2 hlx
      rw [if_neg hlx] at hrr
      subst hrr
      have HST := Lib.hid (store_fail S3.out)
      have S4 := Lib.hid (own_8 S3.out (.int .i64 0) (.int .i64 0) (.int .i64 0) (.int .i64 0) (.bool false) (.string ⟨#[]⟩) (.int .i64 0) (.slice none 0 0))
      clear S3 hlx he
      go_upto_region 7 with fail
      go_wp2_with (with_reducible refine step_store rfl rfl (.tmp 6) (.tmp 49) 100 rfl (.pointer (some ⟨g6, 0, none⟩)) (.agg #[.int .i64 0, .int .i64 0, .int .i64 0, .int .i64 0, .bool false, .string ⟨#[]⟩, .int .i64 0, .slice none 0 0]) ?j1 ?j2 _ HST.out ?_)
      try (case j1 => rfl)
      try (case j2 => rfl)
      exact bodyPost_ret (res8 rfl rfl rfl (S4.out.has (Has.l (has_blk _ _ _)))) rfl ⟨.slice none 0 0, rfl, fin.out _ S4.out⟩
  · have he1 : (((x.err : Nat) : Int) == 0) = false := beq_eq_false_iff_ne.2 (by omega)
    have hrr := HR.out
    rw [if_neg he] at hrr
    subst hrr
    have HST := Lib.hid (store_fail S3.out)
    have S4 := Lib.hid (own_8 S3.out (.int .i64 0) (.int .i64 0) (.int .i64 0) (.int .i64 0) (.bool false) (.string ⟨#[]⟩) (.int .i64 0) (.slice none 0 0))
    clear S3 he
    go_upto_region 5 with fail
    go_wp2_with (with_reducible refine step_store rfl rfl (.tmp 6) (.tmp 40) 100 rfl (.pointer (some ⟨g6, 0, none⟩)) (.agg #[.int .i64 0, .int .i64 0, .int .i64 0, .int .i64 0, .bool false, .string ⟨#[]⟩, .int .i64 0, .slice none 0 0]) ?k1 ?k2 _ HST.out ?_)
    try (case k1 => rfl)
    try (case k2 => rfl)
    exact bodyPost_ret (res8 rfl rfl rfl (S4.out.has (Has.l (has_blk _ _ _)))) rfl ⟨.slice none 0 0, rfl, fin.out _ S4.out⟩
end
end Go.Proofs.Ythoaangmekkcmaa.Bk
end

-- joined
section
namespace Go.Proofs.Ythoaangmekkcmaa.Bk
open Go.ChangeShapes Go.WideShapes Go.ChangeAt Go.RowKit Go.PlainAid Aid Nt Nd Tr
set_option linter.unusedVariables false
set_option linter.unusedSimpArgs false
set_option linter.unusedSectionVars false
/-- A spot: its page, its node, the value that is the node's list. -/
structure Sp where
  pg : Int
  nd : Nod
  v : Value
def spL (L : List Sp) : List Value := L.flatMap fun x => (spotC x.pg x.nd x.v).toList
theorem spL_app (A B : List Sp) : spL (A ++ B) = spL A ++ spL B := List.flatMap_append ..
theorem spL_at (L : List Sp) (q j : Nat) (x : Sp) (h : L[q]? = some x) (hj : j < 8) : (spL L)[q * 8 + j]? = (spotC x.pg x.nd x.v)[j]? := by
  unfold spL
  rw [flatMap_at (fun x : Sp => (spotC x.pg x.nd x.v).toList) 8 (fun _ => rfl) L q j x h hj, Array.getElem?_toList]
def plain (L : List Sp) : List (Int × Nod) := L.map fun x => (x.pg, x.nd)
/-- The lists of spots. -/
def aLs : List Sp → Asn
  | [] => Asn.emp
  | x :: l => aEnts x.nd x.v * aLs l
theorem emp_mul (A : Asn) : Asn.emp * A = A := Asn.same fun w O => ⟨fun ⟨X, Y, hX, hA, hd, hO⟩ => by
  have e : Y = O := by
    funext j
    exact propext ⟨fun h => (hO j).2 (Or.inr h), fun h => ((hO j).1 h).elim (fun x => absurd x (hX j)) id⟩
  exact e ▸ hA, fun h => ⟨fun _ => False, O, fun _ => id, h, fun _ h => h.elim, fun _ => by simp⟩⟩
theorem mul_emp (A : Asn) : A * Asn.emp = A := by rw [Asn.comm, emp_mul]
theorem aLs_snoc (L : List Sp) (x : Sp) : aLs (L ++ [x]) = aEnts x.nd x.v * aLs L := by
  induction L with
  | nil => rfl
  | cons a l ih =>
    rw [List.cons_append, aLs, ih, aLs]
    ac_rfl
theorem plain_snoc (L : List Sp) (x : Sp) : plain (L ++ [x]) = plain L ++ [(x.pg, x.nd)] := by unfold plain; rw [List.map_append]; rfl
theorem sk_err (S : Sf) (level : Int) (key : By) (f : Nat) (v : Vi) (P : List (Int × Nod)) (h : v.err ≠ 0) : sk S level key (f + 1) v P = (v.left, v.err, []) := by rw [sk, if_neg h]
theorem sk_rgt (S : Sf) (level : Int) (key : By) (f : Nat) (v : Vi) (P : List (Int × Nod)) (h : v.err = 0) (h2 : (rgt S key v.left v.pg v.nd).err ≠ 0) : sk S level key (f + 1) v P = ((rgt S key v.left v.pg v.nd).left, (rgt S key v.left v.pg v.nd).err, []) := by
  rw [sk, if_pos h]
  dsimp only
  rw [if_neg h2]
theorem sk_at (S : Sf) (level : Int) (key : By) (f : Nat) (v s : Vi) (P : List (Int × Nod)) (h : v.err = 0) (hs : s = rgt S key v.left v.pg v.nd) (h2 : s.err = 0) (h3 : s.nd.level = level) : sk S level key (f + 1) v P = (s.left, 0, P ++ [(s.pg, s.nd)]) := by
  rw [sk, if_pos h, ← hs]
  dsimp only
  rw [if_pos h2, if_pos h3]
theorem sk_lo (S : Sf) (level : Int) (key : By) (f : Nat) (v s : Vi) (P : List (Int × Nod)) (h : v.err = 0) (hs : s = rgt S key v.left v.pg v.nd) (h2 : s.err = 0) (h3 : s.nd.level < level) : sk S level key (f + 1) v P = (s.left, 3, []) := by
  rw [sk, if_pos h, ← hs]
  dsimp only
  rw [if_pos h2, if_neg (by omega), if_pos h3]
theorem sk_go (S : Sf) (level : Int) (key : By) (f : Nat) (v s : Vi) (P : List (Int × Nod)) (h : v.err = 0) (hs : s = rgt S key v.left v.pg v.nd) (h2 : s.err = 0) (h3 : level < s.nd.level) : sk S level key (f + 1) v P = sk S level key f (blw S s.left s.nd (lastLe s.nd.list key s.nd.list.length)) (P ++ [(s.pg, s.nd)]) := by
  rw [sk, if_pos h, ← hs]
  dsimp only
  rw [if_pos h2, if_neg (by omega), if_neg (by omega)]
end Go.Proofs.Ythoaangmekkcmaa.Bk
end
