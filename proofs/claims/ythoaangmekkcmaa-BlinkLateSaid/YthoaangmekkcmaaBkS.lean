/- What is to change: the halves of a node. -/
import Derived.Test.YthoaangmekkcmaaBkAc
import Derived.Deep.CutBlock
import Derived.Deep.DeepCutAuto
namespace Go.Proofs.Ythoaangmekkcmaa.Bk
open Go.ChangeShapes Go.WideShapes Go.ChangeAt Go.RowKit Go.PlainAid Aid Nt Nd Tr
set_option linter.unusedVariables false
set_option linter.unusedSimpArgs false
set_option linter.unusedSectionVars false
theorem row_take {w : World} {b o m c : Nat} {l : List Ent} (h : Row3 w (.slice (some ⟨b, o, none⟩) m c) l) (k : Nat) (hk : k ≤ l.length) : Row3 w (.slice (some ⟨b, o, none⟩) k c) (l.take k) := by
  have hm := h.len
  refine ⟨some ⟨b, o, none⟩, c, by rw [List.length_take, Nat.min_eq_left hk], by rw [List.length_take]; omega, ?_⟩
  by_cases h0 : l.take k = []
  · exact Or.inl h0
  · right
    have hne : ∃ x, l[0]? = some x := by
      cases l with
      | nil => simp at h0
      | cons a l => exact ⟨a, rfl⟩
    obtain ⟨x, hx⟩ := hne
    obtain ⟨b', o', e, hb, -⟩ := h.at hx
    cases e
    refine ⟨b, o, rfl, hb, fun i x hx => ?_⟩
    rw [List.getElem?_take] at hx
    split at hx
    · exact h.at' hx
    · cases hx
theorem row_drop {w : World} {b o m c : Nat} {l : List Ent} (h : Row3 w (.slice (some ⟨b, o, none⟩) m c) l) (k c' : Nat) (hk : k ≤ l.length) : Row3 w (.slice (some ⟨b, o + k * 3, none⟩) (m - k) c') (l.drop k) := by
  have hm := h.len
  refine ⟨some ⟨b, o + k * 3, none⟩, c', by rw [List.length_drop, ← hm.1], by rw [List.length_drop]; omega, ?_⟩
  by_cases h0 : l.drop k = []
  · exact Or.inl h0
  · right
    have hne : ∃ x, l[0]? = some x := by
      cases l with
      | nil => simp at h0
      | cons a l => exact ⟨a, rfl⟩
    obtain ⟨x, hx⟩ := hne
    obtain ⟨b', o', e, hb, -⟩ := h.at hx
    cases e
    refine ⟨b, o + k * 3, rfl, hb, fun i x hx => ?_⟩
    rw [List.getElem?_drop] at hx
    have := h.at' hx
    rw [show o + k * 3 + i * 3 = o + (k + i) * 3 by omega]
    exact this
theorem res77 {fn : Func} {x y : Nat} {tm : Array Value} {w : World} {g g' : Nat} {a0 a1 a2 a3 a4 a5 a6 b0 b1 b2 b3 b4 b5 b6 : Value} (hf : fn.results = #[.cell x 52, .cell y 52]) (hx : tm[x]?.getD undef = .pointer (some ⟨g, 0, none⟩)) (hy : tm[y]?.getD undef = .pointer (some ⟨g', 0, none⟩))
    (hB : Blk w g 52 #[a0, a1, a2, a3, a4, a5, a6]) (hB' : Blk w g' 52 #[b0, b1, b2, b3, b4, b5, b6]) : (results fn tm).run Try.prog w = .ok (.tuple #[.agg #[a0, a1, a2, a3, a4, a5, a6], .agg #[b0, b1, b2, b3, b4, b5, b6]]) w := by
  obtain ⟨⟨c0, c1, c2, c3, c4, c5, c6⟩, -⟩ := seven hB
  obtain ⟨⟨d0, d1, d2, d3, d4, d5, d6⟩, -⟩ := seven hB'
  clear hB hB'
  unfold results
  rw [hf]
  simp [go_sem, hx, hy, c0, c1, c2, c3, c4, c5, c6, d0, d1, d2, d3, d4, d5, d6]
/-- The halves of a node, the first one leads to a page. -/
def hlf (n : Nod) (page : Int) : Nod × Nod :=
  ({ n with list := n.list.take (n.list.length / 2), has := true, high := (match n.list[n.list.length / 2]? with | some e => e.key | none => []), right := page }, { n with list := n.list.drop (n.list.length / 2) })
set_option maxRecDepth 100000 in
set_option maxHeartbeats 8000000 in
theorem halves_any (n : Nod) (page : Int) (b o c : Nat) (w : World) (h : Row3 w (.slice (some ⟨b, o, none⟩) n.list.length c) n.list) (hc : n.list.length ≤ c) (hc2 : c ≤ 9223372036854775807) (hl : n.list.length ≤ 100000) (h2 : 2 ≤ n.list.length) :
    Calls Try.prog 67 #[.agg (nodCells n (.slice (some ⟨b, o, none⟩) n.list.length c)), .int .i64 page] w fun e w' => ∃ p1 p2, e = .returned (.tuple #[.agg (nodCells (hlf n page).1 p1), .agg (nodCells (hlf n page).2 p2)]) ∧ Own w No w' (aEnts (hlf n page).1 p1 * aEnts (hlf n page).2 p2) := by
  obtain ⟨m, hm⟩ : ∃ m, m = n.list.length / 2 := ⟨_, rfl⟩
  have hml : m < n.list.length := by omega
  have hm1 : 1 ≤ m := by omega
  obtain ⟨e, he⟩ : ∃ e, n.list[m]? = some e := ⟨n.list[m]'hml, List.getElem?_eq_getElem _⟩
  have hh : hlf n page = ({ n with list := n.list.take m, has := true, high := e.key, right := page }, { n with list := n.list.drop m }) := by unfold hlf; rw [← hm, he]
  rw [hh]
  have HC1 := Lib.hid (fun W (hb : Below w.heap.size w W) => clone_ents _ _ W ((row_take h m (by omega)).keep hb) (by rw [List.length_take]; omega))
  have HC2 := Lib.hid (fun W (hb : Below w.heap.size w W) => clone_ents _ _ W ((row_drop h m (c - m) (by omega)).keep hb) (by rw [List.length_drop]; omega))
  have he2 : (cells3 (n.list.drop m))[0]? = some (.string (ofL e.key)) := by
    have : (n.list.drop m)[0]? = some e := by rw [List.getElem?_drop]; exact he
    exact cells3_at (n.list.drop m) 0 0 e this (by decide)
  have HE2 := Lib.hid he2
  have hdl : (n.list.drop m).length = n.list.length - m := by rw [List.length_drop]
  have htl : (n.list.take m).length = m := by rw [List.length_take]; omega
  have S := Lib.hid (((Own.none w).alloc (nodCells n (.slice (some ⟨b, o, none⟩) n.list.length c)) 52).alloc zero7 52 |>.alloc zero7 52)
  unfold aEnts
  dsimp only
  rw [htl] at HC1
  rw [hdl] at HC2
  rw [hdl, htl]
  generalize cells3 (n.list.drop m) = cd at *
  generalize cells3 (n.list.take m) = ct at *
  generalize n.list.drop m = ld at *
  generalize n.list.take m = lt at *
  have hq : ∀ W : World, (binOp .quo 3 (.int .i64 (n.list.length : Int)) (.int .i64 2)).run Try.prog W = .ok (.int .i64 (m : Int)) W := fun W => by
    rw [show (m : Int) = (n.list.length : Int).tdiv 2 by rw [hm, Int.ofNat_tdiv]; rfl]
    simp [binOp, go_sem]
    rw [IntKind.wrap_i64]
    omega
  have HDL := Lib.hid hdl
  have HH := Lib.hid h
  have HCC := Lib.hid hc
  have HM := Lib.hid hm
  clear hm hdl htl he he2 h hq
  have hmi : (m : Int) ≤ (n.list.length : Int) := by omega
  have hmc : (m : Int) ≤ (c : Int) := by omega
  unfold nodCells zero7 at *
  dsimp only at *
  go_enter Try.func67, Try.ntmps67
  go_upto_region 1 with fail
  rw [show ((w.alloc (.cells #[.int .i64 n.tree, .int .i64 n.level, .int .i64 n.stamp, .bool n.has, .string (ofL n.high), .int .i64 n.right, .slice (some ⟨b, o, none⟩) n.list.length c] 52)).alloc (.cells #[.int .i64 0, .int .i64 0, .int .i64 0, .bool false, .string ⟨#[]⟩, .int .i64 0, .slice none 0 0] 52)).heap.size = w.heap.size + 1 + 1 by simp] at S
  rw [show (w.alloc (.cells #[.int .i64 n.tree, .int .i64 n.level, .int .i64 n.stamp, .bool n.has, .string (ofL n.high), .int .i64 n.right, .slice (some ⟨b, o, none⟩) n.list.length c] 52)).heap.size = w.heap.size + 1 by simp] at S
  obtain ⟨g, hgz⟩ : ∃ g, g = w.heap.size := ⟨_, rfl⟩
  have HGz := Lib.hid hgz
  rw [← hgz] at S ⊢
  clear hgz
  generalize World.alloc _ _ = w2 at *
  obtain ⟨⟨c0, c1, c2, c3, c4, c5, c6⟩, -⟩ := seven7 (S.out.has (Has.r (Has.r (Has.l (has_blk _ _ _)))))
  have hglt : g < w2.heap.size := (S.out.has (Has.r (Has.r (Has.l (has_blk _ _ _))))).lt
  go_upto_region 2 with fail
  have S1 : Hid (Own w No ((w2.alloc (.cells #[.int .i64 n.tree, .int .i64 n.level, .int .i64 n.stamp, .bool n.has, .string (ofL n.high), .int .i64 n.right, .slice (some ⟨b, o, none⟩) n.list.length c] 52)).alloc (.cells #[.int .i64 n.tree, .int .i64 n.level, .int .i64 n.stamp, .bool n.has, .string (ofL n.high), .int .i64 n.right, .slice (some ⟨b, o, none⟩) n.list.length c] 52)).drew (Asn.blk (w2.heap.size + 1) 52 #[.int .i64 n.tree, .int .i64 n.level, .int .i64 n.stamp, .bool n.has, .string (ofL n.high), .int .i64 n.right, .slice (some ⟨b, o, none⟩) n.list.length c] * (Asn.blk w2.heap.size 52 #[.int .i64 n.tree, .int .i64 n.level, .int .i64 n.stamp, .bool n.has, .string (ofL n.high), .int .i64 n.right, .slice (some ⟨b, o, none⟩) n.list.length c] * (Asn.blk (g + 1 + 1) 52 #[.int .i64 0, .int .i64 0, .int .i64 0, .bool false, .string ⟨#[]⟩, .int .i64 0, .slice none 0 0] * (Asn.blk (g + 1) 52 #[.int .i64 0, .int .i64 0, .int .i64 0, .bool false, .string ⟨#[]⟩, .int .i64 0, .slice none 0 0] * (Asn.blk g 52 #[.int .i64 n.tree, .int .i64 n.level, .int .i64 n.stamp, .bool n.has, .string (ofL n.high), .int .i64 n.right, .slice (some ⟨b, o, none⟩) n.list.length c] * Asn.emp)))))) := Lib.hid (by
    have h1 := ((S.out.alloc #[.int .i64 n.tree, .int .i64 n.level, .int .i64 n.stamp, .bool n.has, .string (ofL n.high), .int .i64 n.right, .slice (some ⟨b, o, none⟩) n.list.length c] 52).alloc #[.int .i64 n.tree, .int .i64 n.level, .int .i64 n.stamp, .bool n.has, .string (ofL n.high), .int .i64 n.right, .slice (some ⟨b, o, none⟩) n.list.length c] 52).drew
    rw [show (w2.alloc (.cells #[.int .i64 n.tree, .int .i64 n.level, .int .i64 n.stamp, .bool n.has, .string (ofL n.high), .int .i64 n.right, .slice (some ⟨b, o, none⟩) n.list.length c] 52)).heap.size = w2.heap.size + 1 by simp] at h1
    exact h1)
  have S1' : Hid (Own w No ((w2.alloc (.cells #[.int .i64 n.tree, .int .i64 n.level, .int .i64 n.stamp, .bool n.has, .string (ofL n.high), .int .i64 n.right, .slice (some ⟨b, o, none⟩) n.list.length c] 52)).alloc (.cells #[.int .i64 n.tree, .int .i64 n.level, .int .i64 n.stamp, .bool n.has, .string (ofL n.high), .int .i64 n.right, .slice (some ⟨b, o, none⟩) n.list.length c] 52)).drew (Asn.blk w2.heap.size 52 #[.int .i64 n.tree, .int .i64 n.level, .int .i64 n.stamp, .bool n.has, .string (ofL n.high), .int .i64 n.right, .slice (some ⟨b, o, none⟩) n.list.length c] * (Asn.blk (w2.heap.size + 1) 52 #[.int .i64 n.tree, .int .i64 n.level, .int .i64 n.stamp, .bool n.has, .string (ofL n.high), .int .i64 n.right, .slice (some ⟨b, o, none⟩) n.list.length c] * (Asn.blk (g + 1 + 1) 52 #[.int .i64 0, .int .i64 0, .int .i64 0, .bool false, .string ⟨#[]⟩, .int .i64 0, .slice none 0 0] * (Asn.blk (g + 1) 52 #[.int .i64 0, .int .i64 0, .int .i64 0, .bool false, .string ⟨#[]⟩, .int .i64 0, .slice none 0 0] * (Asn.blk g 52 #[.int .i64 n.tree, .int .i64 n.level, .int .i64 n.stamp, .bool n.has, .string (ofL n.high), .int .i64 n.right, .slice (some ⟨b, o, none⟩) n.list.length c] * Asn.emp)))))) := Lib.hid (S1.out.re (by ac_rfl))
  rw [show ((n.list.length : Int) / 2) = (m : Int) by rw [HM.out]; omega]
  go_cut [7, 8] (fun s7 s8 wx => ∃ ga gb : Nat, s7 = .pointer (some ⟨ga, 0, none⟩) ∧ s8 = .pointer (some ⟨gb, 0, none⟩) ∧ Hid (Own w No wx (Asn.blk gb 52 #[.int .i64 n.tree, .int .i64 n.level, .int .i64 n.stamp, .bool n.has, .string (ofL n.high), .int .i64 n.right, .slice (some ⟨b, o, none⟩) n.list.length c] * (Asn.blk ga 52 #[.int .i64 n.tree, .int .i64 n.level, .int .i64 n.stamp, .bool n.has, .string (ofL n.high), .int .i64 n.right, .slice (some ⟨b, o, none⟩) n.list.length c] * (Asn.blk (g + 1 + 1) 52 #[.int .i64 0, .int .i64 0, .int .i64 0, .bool false, .string ⟨#[]⟩, .int .i64 0, .slice none 0 0] * (Asn.blk (g + 1) 52 #[.int .i64 0, .int .i64 0, .int .i64 0, .bool false, .string ⟨#[]⟩, .int .i64 0, .slice none 0 0] * (Asn.blk g 52 #[.int .i64 n.tree, .int .i64 n.level, .int .i64 n.stamp, .bool n.has, .string (ofL n.high), .int .i64 n.right, .slice (some ⟨b, o, none⟩) n.list.length c] * Asn.emp)))))))
  case first =>
    go_region_law fail
    all_goals
      go_wp2_with fail
      go_meet
      case rel => first | exact ⟨w2.heap.size, w2.heap.size + 1, rfl, rfl, S1⟩ | exact ⟨w2.heap.size + 1, w2.heap.size, rfl, rfl, S1'⟩
  case rest =>
  clear S S1 S1' c0 c1 c2 c3 c4 c5 c6 hglt
  obtain ⟨ga, gb, rfl, rfl, S2⟩ := hcut
  have c6 := (S2.out.has (Has.r (Has.r (Has.r (Has.r (Has.l (has_blk g _ _))))))).cell 6
  go_wp2_with fail
  refine (HC1.out _ S2.out.bel).mono ?_
  rintro e1 w3 ⟨p1, rfl, hX⟩
  have T := Lib.hid (own_join S2.out hX)
  clear hX S2 HC1 c6
  obtain ⟨A1, cp1, rfl⟩ := T.out.vec.slice
  have hcf := seven7 (T.out.has (Has.r (Has.r (Has.l (has_blk ga _ _)))))
  obtain ⟨⟨c0, c1, c2, c3, c4, c5, c6⟩, f0, f1, f2, f3, f4, f5, f6⟩ := hcf
  go_upto_region 4 with fail
  have T1 := Lib.hid (T.out.set (Sets.r (Sets.r (Sets.l (sets_blk ga 52 _ 6 (.slice A1 m cp1))))))
  simp only [List.setIfInBounds_toArray, List.set_cons_zero, List.set_cons_succ] at T1
  clear T c0 c1 c2 c3 c4 c5 c6 f0 f1 f2 f3 f4 f5 f6
  generalize World.setCell _ _ _ = w4 at *
  have c6 := (T1.out.has (Has.r (Has.r (Has.r (Has.r (Has.r (Has.l (has_blk g _ _)))))))).cell 6
  go_wp2_with fail
  refine (HC2.out _ T1.out.bel).mono ?_
  rintro e1 w5 ⟨p2, rfl, hX⟩
  have T2 := Lib.hid (own_join T1.out hX)
  clear hX T1 HC2 c6
  obtain ⟨b2, cp2, rfl⟩ : ∃ b cb, p2 = .slice (some ⟨b, 0, none⟩) (n.list.length - m) cb := by
    rcases T2.out.vec.forms with ⟨-, hz⟩ | ⟨g, cap, h, -, h1, h2⟩
    · omega
    · exact ⟨_, _, h⟩
  have hcf := seven7 (T2.out.has (Has.r (Has.r (Has.l (has_blk gb _ _)))))
  obtain ⟨⟨c0, c1, c2, c3, c4, c5, c6⟩, f0, f1, f2, f3, f4, f5, f6⟩ := hcf
  go_upto_region 5 with fail
  have T3 := Lib.hid (T2.out.set (Sets.r (Sets.r (Sets.l (sets_blk gb 52 _ 6 (.slice (some ⟨b2, 0, none⟩) (n.list.length - m) cp2))))))
  simp only [List.setIfInBounds_toArray, List.set_cons_zero, List.set_cons_succ] at T3
  clear T2 c0 c1 c2 c3 c4 c5 c6 f0 f1 f2 f3 f4 f5 f6
  generalize World.setCell _ _ _ = w6 at *
  have T3d := Lib.hid T3.out
  have x0 : w6.cell? ⟨b2, 0, none⟩ = some (.string (ofL e.key)) := T3.out.vec.cell HE2.out
  have g6 := (T3.out.has (Has.r (Has.r (Has.l (has_blk gb _ _))))).cell 6
  have hcf := seven7 (T3.out.has (Has.r (Has.r (Has.r (Has.l (has_blk ga _ _))))))
  obtain ⟨⟨c0, c1, c2, c3, c4, c5, c6⟩, f0, f1, f2, f3, f4, f5, f6⟩ := hcf
  have hne1 : gb ≠ ga := T3.out.right.right.ne (mem_blk _ _ _) (Mem.l (mem_blk _ _ _))
  have hne2 : b2 ≠ ga := T3.out.ne (fun _ _ h => (h.2 b2).2 rfl) (Mem.r (Mem.r (Mem.l (mem_blk ga _ _))))
  have hge : 0 < n.list.length - m := by omega
  have TF := Lib.hid ((((T3.out.set (Sets.r (Sets.r (Sets.r (Sets.l (sets_blk ga 52 _ 3 (.bool true))))))).set (Sets.r (Sets.r (Sets.r (Sets.l (sets_blk ga 52 _ 4 (.string (ofL e.key)))))))).set (Sets.r (Sets.r (Sets.r (Sets.l (sets_blk ga 52 _ 5 (.int .i64 page))))))).drew)
  simp only [List.setIfInBounds_toArray, List.set_cons_zero, List.set_cons_succ] at TF
  go_cut [] (fun wx => Hid (Own w No wx (Asn.vec 44 3 (.slice (some ⟨b2, 0, none⟩) (n.list.length - m) cp2) (n.list.length - m) cd * (Asn.vec 44 3 (.slice A1 m cp1) m ct * (Asn.blk gb 52 #[.int .i64 n.tree, .int .i64 n.level, .int .i64 n.stamp, .bool n.has, .string (ofL n.high), .int .i64 n.right, .slice (some ⟨b2, 0, none⟩) (n.list.length - m) cp2] * (Asn.blk ga 52 #[.int .i64 n.tree, .int .i64 n.level, .int .i64 n.stamp, .bool true, .string (ofL e.key), .int .i64 page, .slice A1 m cp1] * (Asn.blk (g + 1 + 1) 52 #[.int .i64 0, .int .i64 0, .int .i64 0, .bool false, .string ⟨#[]⟩, .int .i64 0, .slice none 0 0] * (Asn.blk (g + 1) 52 #[.int .i64 0, .int .i64 0, .int .i64 0, .bool false, .string ⟨#[]⟩, .int .i64 0, .slice none 0 0] * (Asn.blk g 52 #[.int .i64 n.tree, .int .i64 n.level, .int .i64 n.stamp, .bool n.has, .string (ofL n.high), .int .i64 n.right, .slice (some ⟨b, o, none⟩) n.list.length c] * Asn.emp)))))))))
  case first =>
    go_region_law fail
    all_goals
      go_wp2_with fail
      go_meet
      case rel => exact TF
  case rest =>
  clear TF T3 T3d x0 g6 c0 c1 c2 c3 c4 c5 c6 f0 f1 f2 f3 f4 f5 f6
  have T4 := hcut
  have T5 := Lib.hid ((own_seven ((own_seven (T4.out.re (show _ = Asn.blk (g + 1) 52 #[.int .i64 0, .int .i64 0, .int .i64 0, .bool false, .string ⟨#[]⟩, .int .i64 0, .slice none 0 0] * (Asn.blk (g + 1 + 1) 52 #[.int .i64 0, .int .i64 0, .int .i64 0, .bool false, .string ⟨#[]⟩, .int .i64 0, .slice none 0 0] * (Asn.vec 44 3 (.slice (some ⟨b2, 0, none⟩) (n.list.length - m) cp2) (n.list.length - m) cd * (Asn.vec 44 3 (.slice A1 m cp1) m ct * (Asn.blk gb 52 #[.int .i64 n.tree, .int .i64 n.level, .int .i64 n.stamp, .bool n.has, .string (ofL n.high), .int .i64 n.right, .slice (some ⟨b2, 0, none⟩) (n.list.length - m) cp2] * (Asn.blk ga 52 #[.int .i64 n.tree, .int .i64 n.level, .int .i64 n.stamp, .bool true, .string (ofL e.key), .int .i64 page, .slice A1 m cp1] * (Asn.blk g 52 #[.int .i64 n.tree, .int .i64 n.level, .int .i64 n.stamp, .bool n.has, .string (ofL n.high), .int .i64 n.right, .slice (some ⟨b, o, none⟩) n.list.length c] * Asn.emp)))))) by ac_rfl)) (.int .i64 n.tree) (.int .i64 n.level) (.int .i64 n.stamp) (.bool true) (.string (ofL e.key)) (.int .i64 page) (.slice A1 m cp1)).re (show _ = Asn.blk (g + 1 + 1) 52 #[.int .i64 0, .int .i64 0, .int .i64 0, .bool false, .string ⟨#[]⟩, .int .i64 0, .slice none 0 0] * (Asn.blk (g + 1) 52 #[.int .i64 n.tree, .int .i64 n.level, .int .i64 n.stamp, .bool true, .string (ofL e.key), .int .i64 page, .slice A1 m cp1] * (Asn.vec 44 3 (.slice (some ⟨b2, 0, none⟩) (n.list.length - m) cp2) (n.list.length - m) cd * (Asn.vec 44 3 (.slice A1 m cp1) m ct * (Asn.blk gb 52 #[.int .i64 n.tree, .int .i64 n.level, .int .i64 n.stamp, .bool n.has, .string (ofL n.high), .int .i64 n.right, .slice (some ⟨b2, 0, none⟩) (n.list.length - m) cp2] * (Asn.blk ga 52 #[.int .i64 n.tree, .int .i64 n.level, .int .i64 n.stamp, .bool true, .string (ofL e.key), .int .i64 page, .slice A1 m cp1] * (Asn.blk g 52 #[.int .i64 n.tree, .int .i64 n.level, .int .i64 n.stamp, .bool n.has, .string (ofL n.high), .int .i64 n.right, .slice (some ⟨b, o, none⟩) n.list.length c] * Asn.emp)))))) by ac_rfl)) (.int .i64 n.tree) (.int .i64 n.level) (.int .i64 n.stamp) (.bool n.has) (.string (ofL n.high)) (.int .i64 n.right) (.slice (some ⟨b2, 0, none⟩) (n.list.length - m) cp2)).drew)
  obtain ⟨⟨c0, c1, c2, c3, c4, c5, c6⟩, -⟩ := seven7 (T4.out.has (Has.r (Has.r (Has.l (has_blk gb _ _)))))
  obtain ⟨⟨d0, d1, d2, d3, d4, d5, d6⟩, -⟩ := seven7 (T4.out.has (Has.r (Has.r (Has.r (Has.l (has_blk ga _ _))))))
  have hca := T4.out.has (Has.r (Has.r (Has.r (Has.r (Has.l (has_blk (g + 1 + 1) _ _))))))
  have hcb := T4.out.has (Has.r (Has.r (Has.r (Has.r (Has.r (Has.l (has_blk (g + 1) _ _)))))))
  obtain ⟨⟨e0, e1, e2, e3, e4, e5, e6⟩, k0, k1, k2, k3, k4, k5, k6⟩ := seven7 hca
  obtain ⟨⟨h0, h1, h2', h3, h4, h5, h6⟩, l0, l1, l2, l3, l4, l5, l6⟩ := seven7 hcb
  have hn1 : ga ≠ g + 1 := T4.out.right.right.right.ne (mem_blk _ _ _) (Mem.r (Mem.l (mem_blk _ _ _)))
  have hn2 : gb ≠ g + 1 := T4.out.right.right.ne (mem_blk _ _ _) (Mem.r (Mem.r (Mem.l (mem_blk _ _ _))))
  have hn3 : ga ≠ g + 1 + 1 := T4.out.right.right.right.ne (mem_blk _ _ _) (Mem.l (mem_blk _ _ _))
  have hn4 : gb ≠ g + 1 + 1 := T4.out.right.right.ne (mem_blk _ _ _) (Mem.r (Mem.l (mem_blk _ _ _)))
  clear hca hcb hcut
  go_upto_region 6 with fail
  go_region_law fail
  all_goals
    go_wp2_with fail
    generalize World.drew _ = w9 at *
    refine bodyPost_ret (res77 rfl rfl rfl (T5.out.has (Has.r (Has.l (has_blk _ _ _)))) (T5.out.has (Has.l (has_blk _ _ _)))) rfl ⟨.slice A1 m cp1, .slice (some ⟨b2, 0, none⟩) (n.list.length - m) cp2, rfl, ?_⟩
    exact (T5.out.right.right.re (show _ = (Asn.blk gb 52 #[.int .i64 n.tree, .int .i64 n.level, .int .i64 n.stamp, .bool n.has, .string (ofL n.high), .int .i64 n.right, .slice (some ⟨b2, 0, none⟩) (n.list.length - m) cp2] * (Asn.blk ga 52 #[.int .i64 n.tree, .int .i64 n.level, .int .i64 n.stamp, .bool true, .string (ofL e.key), .int .i64 page, .slice A1 m cp1] * (Asn.blk g 52 #[.int .i64 n.tree, .int .i64 n.level, .int .i64 n.stamp, .bool n.has, .string (ofL n.high), .int .i64 n.right, .slice (some ⟨b, o, none⟩) n.list.length c] * Asn.emp))) * (Asn.vec 44 3 (.slice A1 m cp1) m ct * Asn.vec 44 3 (.slice (some ⟨b2, 0, none⟩) (n.list.length - m) cp2) (n.list.length - m) cd) by ac_rfl)).right
end Go.Proofs.Ythoaangmekkcmaa.Bk
