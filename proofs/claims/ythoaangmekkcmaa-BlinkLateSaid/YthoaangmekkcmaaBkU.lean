/- What is to change: a node is parted. -/
import Derived.Test.YthoaangmekkcmaaBkS
namespace Go.Proofs.Ythoaangmekkcmaa.Bk
open Go.ChangeShapes Go.WideShapes Go.ChangeAt Go.RowKit Go.PlainAid Aid Nt Nd Tr
set_option linter.unusedVariables false
set_option linter.unusedSimpArgs false
set_option linter.unusedSectionVars false
theorem resVP {fn : Func} {x y : Nat} {tm : Array Value} {w : World} {g : Nat} {v a0 a1 a2 a3 : Value} (hf : fn.results = #[.tmp x, .cell y 80]) (hx : tm[x]?.getD undef = v) (hy : tm[y]?.getD undef = .pointer (some ⟨g, 0, none⟩))
    (hB : Blk w g 80 #[a0, a1, a2, a3]) : (results fn tm).run Try.prog w = .ok (.tuple #[v, .agg #[a0, a1, a2, a3]]) w := by
  have c0 := hB.cell 0
  have c1 := hB.cell 1
  have c2 := hB.cell 2
  have c3 := hB.cell 3
  clear hB
  simp only [List.getElem?_toArray, List.getElem?_cons_zero, List.getElem?_cons_succ] at c0 c1 c2 c3
  unfold results
  rw [hf]
  simp [go_sem, hx, hy, c0, c1, c2, c3]
set_option maxRecDepth 100000 in
set_option maxHeartbeats 16000000 in
theorem part_any (pg : Int) (n : Nod) (page : Int) (b o c : Nat) (w : World) (h : Row3 w (.slice (some ⟨b, o, none⟩) n.list.length c) n.list) (hc : n.list.length ≤ c) (hc2 : c ≤ 9223372036854775807) (hl : n.list.length ≤ 100000) (h2 : 2 ≤ n.list.length) :
    Calls Try.prog 55 #[.agg (spotC pg n (.slice (some ⟨b, o, none⟩) n.list.length c)), .int .i64 page] w fun e w' => ∃ (v : Value) (L : List Sp), e = .returned (.tuple #[v, .agg #[.int .i64 n.tree, .int .i64 (IntKind.i64.wrap (n.level + 1)), .string (ofL (hlf n page).1.high), .int .i64 page]]) ∧ plain L = [(pg, (hlf n page).1), (page, (hlf n page).2)] ∧ Own w No w' (Asn.vec 73 8 v L.length (spL L) * aLs L) := by
  have HHa := Lib.hid (fun W (hb : Below w.heap.size w W) => halves_any n page b o c W (h.keep hb) hc hc2 hl h2)
  have S := Lib.hid (((Own.none w).alloc (spotC pg n (.slice (some ⟨b, o, none⟩) n.list.length c)) 100).alloc #[.int .i64 0, .int .i64 0, .string ⟨#[]⟩, .int .i64 0] 80)
  generalize (hlf n page).1 = na at *
  generalize (hlf n page).2 = nb at *
  clear h
  unfold spotC nodCells at *
  go_enter Try.func55, Try.ntmps55
  go_upto_region 1 with fail
  rw [show (w.alloc (.cells #[.int .i64 pg, .int .i64 n.tree, .int .i64 n.level, .int .i64 n.stamp, .bool n.has, .string (ofL n.high), .int .i64 n.right, .slice (some ⟨b, o, none⟩) n.list.length c] 100)).heap.size = w.heap.size + 1 by simp] at S
  obtain ⟨g, hgz⟩ : ∃ g, g = w.heap.size := ⟨_, rfl⟩
  have HGz := Lib.hid hgz
  rw [← hgz] at S ⊢
  clear hgz
  generalize World.alloc _ _ = w2 at *
  obtain ⟨k0, k1, k2, k3, k4, k5, k6, k7⟩ := eight_of (S.out.has (Has.r (Has.l (has_blk _ _ _))))
  go_wp2_with fail
  refine (HHa.out _ S.out.bel).mono ?_
  rintro e1 w3 ⟨p1, p2, rfl, hX⟩
  have T := Lib.hid (own_join S.out hX)
  clear hX S HHa k0 k1 k2 k3 k4 k5 k6 k7
  obtain ⟨A1, c1, rfl⟩ := (show Own w No w3 (Asn.vec 44 3 p1 na.list.length (cells3 na.list) * (aEnts nb p2 * (Asn.blk (g + 1) 80 #[.int .i64 0, .int .i64 0, .string ⟨#[]⟩, .int .i64 0] * (Asn.blk g 100 #[.int .i64 pg, .int .i64 n.tree, .int .i64 n.level, .int .i64 n.stamp, .bool n.has, .string (ofL n.high), .int .i64 n.right, .slice (some ⟨b, o, none⟩) n.list.length c] * Asn.emp)))) from T.out.re (show _ = aEnts na p1 * (aEnts nb p2 * _) by ac_rfl)).vec.slice
  obtain ⟨A2, c2, rfl⟩ := (show Own w No w3 (Asn.vec 44 3 p2 nb.list.length (cells3 nb.list) * (aEnts na (.slice A1 na.list.length c1) * (Asn.blk (g + 1) 80 #[.int .i64 0, .int .i64 0, .string ⟨#[]⟩, .int .i64 0] * (Asn.blk g 100 #[.int .i64 pg, .int .i64 n.tree, .int .i64 n.level, .int .i64 n.stamp, .bool n.has, .string (ofL n.high), .int .i64 n.right, .slice (some ⟨b, o, none⟩) n.list.length c] * Asn.emp)))) from T.out.re (show _ = aEnts nb p2 * (aEnts na (.slice A1 na.list.length c1) * _) by ac_rfl)).vec.slice
  have T1 := Lib.hid ((T.out.alloc #[.int .i64 na.tree, .int .i64 na.level, .int .i64 na.stamp, .bool na.has, .string (ofL na.high), .int .i64 na.right, .slice A1 na.list.length c1] 52).alloc #[.int .i64 nb.tree, .int .i64 nb.level, .int .i64 nb.stamp, .bool nb.has, .string (ofL nb.high), .int .i64 nb.right, .slice A2 nb.list.length c2] 52)
  rw [show (w3.alloc (.cells #[.int .i64 na.tree, .int .i64 na.level, .int .i64 na.stamp, .bool na.has, .string (ofL na.high), .int .i64 na.right, .slice A1 na.list.length c1] 52)).heap.size = w3.heap.size + 1 by simp] at T1
  clear T
  go_upto_region 2 with fail
  obtain ⟨g6, hgz⟩ : ∃ g, g = w3.heap.size := ⟨_, rfl⟩
  rw [← hgz] at T1 ⊢
  clear hgz
  generalize World.alloc _ _ = w4 at *
  obtain ⟨k0, k1, k2, k3, k4, k5, k6, k7⟩ := eight_of (T1.out.has (Has.r (Has.r (Has.r (Has.r (Has.l (has_blk g _ _)))))))
  obtain ⟨⟨c0, c1', c2', c3, c4, c5, c6⟩, -⟩ := seven7 (T1.out.has (Has.r (Has.l (has_blk g6 _ _))))
  obtain ⟨⟨d0, d1, d2, d3, d4, d5, d6⟩, -⟩ := seven7 (T1.out.has (Has.l (has_blk (g6 + 1) _ _)))
  have T2 := Lib.hid (T1.out.alloc #[.int .i64 pg, .int .i64 na.tree, .int .i64 na.level, .int .i64 na.stamp, .bool na.has, .string (ofL na.high), .int .i64 na.right, .slice A1 na.list.length c1, .int .i64 page, .int .i64 nb.tree, .int .i64 nb.level, .int .i64 nb.stamp, .bool nb.has, .string (ofL nb.high), .int .i64 nb.right, .slice A2 nb.list.length c2] 73)
  clear T1
  go_upto_region 3 with fail
  obtain ⟨ch, hch⟩ : ∃ g, g = w4.heap.size := ⟨_, rfl⟩
  rw [← hch] at T2 ⊢
  clear hch k0 k1 k2 k3 k4 k5 k6 k7 c0 c1' c2' c3 c4 c5 c6 d0 d1 d2 d3 d4 d5 d6
  generalize World.alloc _ _ = w5 at *
  obtain ⟨k0, k1, k2, k3, k4, k5, k6, k7⟩ := eight_of (T2.out.has (Has.r (Has.r (Has.r (Has.r (Has.r (Has.l (has_blk g _ _))))))))
  obtain ⟨⟨c0, c1', c2', c3, c4, c5, c6⟩, -⟩ := seven7 (T2.out.has (Has.r (Has.r (Has.l (has_blk g6 _ _)))))
  have hbp := T2.out.has (Has.r (Has.r (Has.r (Has.r (Has.l (has_blk (g + 1) _ _))))))
  have x0 := hbp.cell 0
  have x1 := hbp.cell 1
  have x2 := hbp.cell 2
  have x3 := hbp.cell 3
  have f0 := hbp.free 0
  have f1 := hbp.free 1
  have f2 := hbp.free 2
  have f3 := hbp.free 3
  simp only [List.getElem?_toArray, List.getElem?_cons_zero, List.getElem?_cons_succ] at x0 x1 x2 x3
  have hn1 : g ≠ g + 1 := by omega
  have hn2 : g6 ≠ g + 1 := T2.out.right.right.ne (mem_blk _ _ _) (Mem.r (Mem.l (mem_blk _ _ _)))
  have TF := Lib.hid (((((T2.out.set (Sets.r (Sets.r (Sets.r (Sets.r (Sets.l (sets_blk (g + 1) 80 _ 0 (.int .i64 n.tree)))))))).set (Sets.r (Sets.r (Sets.r (Sets.r (Sets.l (sets_blk (g + 1) 80 _ 1 (.int .i64 (IntKind.i64.wrap (n.level + 1)))))))))).set (Sets.r (Sets.r (Sets.r (Sets.r (Sets.l (sets_blk (g + 1) 80 _ 2 (.string (ofL na.high))))))))).set (Sets.r (Sets.r (Sets.r (Sets.r (Sets.l (sets_blk (g + 1) 80 _ 3 (.int .i64 page)))))))).drew)
  simp only [List.setIfInBounds_toArray, List.set_cons_zero, List.set_cons_succ] at TF
  go_region_law fail
  all_goals
    go_wp2_with fail
    generalize World.drew _ = w9 at *
    refine bodyPost_ret (resVP rfl rfl rfl (TF.out.has (Has.r (Has.r (Has.r (Has.r (Has.l (has_blk (g + 1) _ _)))))))) rfl ⟨.slice (some ⟨ch, 0, none⟩) 2 2, [⟨pg, na, .slice A1 na.list.length c1⟩, ⟨page, nb, .slice A2 nb.list.length c2⟩], rfl, rfl, ?_⟩
    have h1 := TF.out.imp (Imp.l (blk_vec (cs := [.int .i64 pg, .int .i64 na.tree, .int .i64 na.level, .int .i64 na.stamp, .bool na.has, .string (ofL na.high), .int .i64 na.right, .slice A1 na.list.length c1, .int .i64 page, .int .i64 nb.tree, .int .i64 nb.level, .int .i64 nb.stamp, .bool nb.has, .string (ofL nb.high), .int .i64 nb.right, .slice A2 nb.list.length c2]) 2 8 rfl (by unfold maxLen; omega)))
    exact (h1.re (show _ = (Asn.blk (g6 + 1) 52 #[.int .i64 nb.tree, .int .i64 nb.level, .int .i64 nb.stamp, .bool nb.has, .string (ofL nb.high), .int .i64 nb.right, .slice A2 nb.list.length c2] * (Asn.blk g6 52 #[.int .i64 na.tree, .int .i64 na.level, .int .i64 na.stamp, .bool na.has, .string (ofL na.high), .int .i64 na.right, .slice A1 na.list.length c1] * (Asn.blk (g + 1) 80 #[.int .i64 n.tree, .int .i64 (IntKind.i64.wrap (n.level + 1)), .string (ofL na.high), .int .i64 page] * (Asn.blk g 100 #[.int .i64 pg, .int .i64 n.tree, .int .i64 n.level, .int .i64 n.stamp, .bool n.has, .string (ofL n.high), .int .i64 n.right, .slice (some ⟨b, o, none⟩) n.list.length c] * Asn.emp)))) * (Asn.vec 73 8 (.slice (some ⟨ch, 0, none⟩) 2 2) 2 (spL [⟨pg, na, .slice A1 na.list.length c1⟩, ⟨page, nb, .slice A2 nb.list.length c2⟩]) * aLs [⟨pg, na, .slice A1 na.list.length c1⟩, ⟨page, nb, .slice A2 nb.list.length c2⟩]) by show _ = _ * (_ * (aEnts na (.slice A1 na.list.length c1) * (aEnts nb (.slice A2 nb.list.length c2) * Asn.emp))); rw [mul_emp, mul_emp, show spL [⟨pg, na, .slice A1 na.list.length c1⟩, ⟨page, nb, .slice A2 nb.list.length c2⟩] = [.int .i64 pg, .int .i64 na.tree, .int .i64 na.level, .int .i64 na.stamp, .bool na.has, .string (ofL na.high), .int .i64 na.right, .slice A1 na.list.length c1, .int .i64 page, .int .i64 nb.tree, .int .i64 nb.level, .int .i64 nb.stamp, .bool nb.has, .string (ofL nb.high), .int .i64 nb.right, .slice A2 nb.list.length c2] from rfl]; ac_rfl)).right
end Go.Proofs.Ythoaangmekkcmaa.Bk
