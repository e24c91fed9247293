/- What is to change: the root is parted. -/
import Derived.Test.YthoaangmekkcmaaBkU
import Derived.Test.YthoaangmekkcmaaBkT
import Derived.Deep.CutBlock
import Derived.Deep.DeepCutAuto
import Derived.Test.YthoaangmekkcmaaStep
namespace Go.Proofs.Ythoaangmekkcmaa.Bk
open Go.ChangeShapes Go.WideShapes Go.ChangeAt Go.RowKit Go.PlainAid Aid Nt Nd Tr
set_option linter.unusedVariables false
set_option linter.unusedSimpArgs false
set_option linter.unusedSectionVars false
theorem low_bytes : ofL low = ({ data := #[0, 0, 0, 0, 0, 0, 0, 0, 0] } : ByteArray) := by decide +kernel
def grw (n : Nod) (pg f0 f1 : Int) : List (Int × Nod) :=
  [(pg, { n with level := wrap64 (n.level + 1), list := [⟨low, numZ 2 f0, false⟩, ⟨(hlf n f1).1.high, numZ 2 f1, false⟩] }), (f0, (hlf n f1).1), (f1, { (hlf n f1).2 with has := false, high := [], right := 0 })]
theorem res1 {fn : Func} {x : Nat} {tm : Array Value} {w : World} {v : Value} (hf : fn.results = #[.tmp x]) (hx : tm[x]?.getD undef = v) : (results fn tm).run Try.prog w = .ok v w := by
  unfold results
  rw [hf]
  simp [go_sem, hx]
set_option maxRecDepth 100000 in
set_option maxHeartbeats 16000000 in
theorem grow_any (pg : Int) (n : Nod) (f0 f1 : Int) (b o c : Nat) (w : World) (h : Row3 w (.slice (some ⟨b, o, none⟩) n.list.length c) n.list) (hc : n.list.length ≤ c) (hc2 : c ≤ 9223372036854775807) (hl : n.list.length ≤ 100000) (h2 : 2 ≤ n.list.length) :
    Calls Try.prog 56 #[.agg (spotC pg n (.slice (some ⟨b, o, none⟩) n.list.length c)), .agg #[.int .i64 f0, .int .i64 f1]] w fun e w' => ∃ (v : Value) (L : List Sp), e = .returned v ∧ plain L = grw n pg f0 f1 ∧ Own w No w' (Asn.vec 73 8 v L.length (spL L) * aLs L) := by
  have HHa := Lib.hid (fun W (hb : Below w.heap.size w W) => halves_any n f1 b o c W (h.keep hb) hc hc2 hl h2)
  have S := Lib.hid (((Own.none w).alloc (spotC pg n (.slice (some ⟨b, o, none⟩) n.list.length c)) 100).alloc #[.int .i64 f0, .int .i64 f1] 83)
  unfold grw
  generalize (hlf n f1).1 = na at *
  generalize (hlf n f1).2 = nb at *
  clear h
  unfold spotC nodCells at *
  go_enter Try.func56, Try.ntmps56
  go_upto_region 1 with fail
  rw [show (w.alloc (.cells #[.int .i64 pg, .int .i64 n.tree, .int .i64 n.level, .int .i64 n.stamp, .bool n.has, .string (ofL n.high), .int .i64 n.right, .slice (some ⟨b, o, none⟩) n.list.length c] 100)).heap.size = w.heap.size + 1 by simp] at S
  obtain ⟨g, hgz⟩ : ∃ g, g = w.heap.size := ⟨_, rfl⟩
  have HGz := Lib.hid hgz
  rw [← hgz] at S ⊢
  clear hgz
  generalize World.alloc _ _ = w2 at *
  obtain ⟨k0, k1, k2, k3, k4, k5, k6, k7⟩ := eight_of (S.out.has (Has.r (Has.l (has_blk _ _ _))))
  have y0 := (S.out.has (Has.l (has_blk _ _ _))).cell 0
  have y1 := (S.out.has (Has.l (has_blk _ _ _))).cell 1
  go_wp2_with fail
  refine (HHa.out _ S.out.bel).mono ?_
  rintro e1 w3 ⟨p1, p2, rfl, hX⟩
  have T := Lib.hid (own_join S.out hX)
  clear hX S HHa k0 k1 k2 k3 k4 k5 k6 k7 y0 y1
  obtain ⟨A1, c1, rfl⟩ := (show Own w No w3 (Asn.vec 44 3 p1 na.list.length (cells3 na.list) * (aEnts nb p2 * (Asn.blk (g + 1) 83 #[.int .i64 f0, .int .i64 f1] * (Asn.blk g 100 #[.int .i64 pg, .int .i64 n.tree, .int .i64 n.level, .int .i64 n.stamp, .bool n.has, .string (ofL n.high), .int .i64 n.right, .slice (some ⟨b, o, none⟩) n.list.length c] * Asn.emp)))) from T.out.re (show _ = aEnts na p1 * (aEnts nb p2 * _) by ac_rfl)).vec.slice
  obtain ⟨A2, c2, rfl⟩ := (show Own w No w3 (Asn.vec 44 3 p2 nb.list.length (cells3 nb.list) * (aEnts na (.slice A1 na.list.length c1) * (Asn.blk (g + 1) 83 #[.int .i64 f0, .int .i64 f1] * (Asn.blk g 100 #[.int .i64 pg, .int .i64 n.tree, .int .i64 n.level, .int .i64 n.stamp, .bool n.has, .string (ofL n.high), .int .i64 n.right, .slice (some ⟨b, o, none⟩) n.list.length c] * Asn.emp)))) from T.out.re (show _ = aEnts nb p2 * (aEnts na (.slice A1 na.list.length c1) * _) by ac_rfl)).vec.slice
  have T1 := Lib.hid ((T.out.alloc #[.int .i64 na.tree, .int .i64 na.level, .int .i64 na.stamp, .bool na.has, .string (ofL na.high), .int .i64 na.right, .slice A1 na.list.length c1] 52).alloc #[.int .i64 nb.tree, .int .i64 nb.level, .int .i64 nb.stamp, .bool nb.has, .string (ofL nb.high), .int .i64 nb.right, .slice A2 nb.list.length c2] 52)
  rw [show (w3.alloc (.cells #[.int .i64 na.tree, .int .i64 na.level, .int .i64 na.stamp, .bool na.has, .string (ofL na.high), .int .i64 na.right, .slice A1 na.list.length c1] 52)).heap.size = w3.heap.size + 1 by simp] at T1
  clear T
  go_upto_region 2 with fail
  obtain ⟨g5, hgz⟩ : ∃ g, g = w3.heap.size := ⟨_, rfl⟩
  rw [← hgz] at T1 ⊢
  clear hgz
  generalize World.alloc _ _ = w4 at *
  obtain ⟨⟨d0, d1, d2, d3, d4, d5, d6⟩, l0, l1, l2, l3, l4, l5, l6⟩ := seven7 (T1.out.has (Has.l (has_blk (g5 + 1) _ _)))
  go_upto_region 3 with fail
  have T2 := Lib.hid (((T1.out.set (Sets.l (sets_blk (g5 + 1) 52 _ 3 (.bool false)))).set (Sets.l (sets_blk (g5 + 1) 52 _ 4 (.string ⟨#[]⟩)))).set (Sets.l (sets_blk (g5 + 1) 52 _ 5 (.int .i64 0))))
  simp only [List.setIfInBounds_toArray, List.set_cons_zero, List.set_cons_succ] at T2
  clear T1 d0 d1 d2 d3 d4 d5 d6 l0 l1 l2 l3 l4 l5 l6
  generalize World.setCell _ _ _ = w5 at *
  obtain ⟨k0, k1, k2, k3, k4, k5, k6, k7⟩ := eight_of (T2.out.has (Has.r (Has.r (Has.r (Has.r (Has.l (has_blk g _ _)))))))
  have T3 := Lib.hid (T2.out.alloc #[.int .i64 n.tree, .int .i64 (wrap64 (n.level + 1)), .int .i64 n.stamp, .bool n.has, .string (ofL n.high), .int .i64 n.right, .slice (some ⟨b, o, none⟩) n.list.length c] 52)
  clear T2
  go_upto_region 5 with fail
  obtain ⟨g7, hg7⟩ : ∃ g, g = w5.heap.size := ⟨_, rfl⟩
  rw [← hg7] at T3 ⊢
  clear hg7 k0 k1 k2 k3 k4 k5 k6 k7
  generalize World.alloc _ _ = w6 at *
  obtain ⟨hb, hhb⟩ : ∃ hb, hb = ofL na.high := ⟨_, rfl⟩
  rw [← hhb] at T3 ⊢
  have HHB := Lib.hid hhb
  clear hhb
  have T3d := Lib.hid T3.out.drew
  have HL0 := Lib.hid (fun W => Lead_any ({ data := #[0, 0, 0, 0, 0, 0, 0, 0, 0] } : ByteArray) f0 W)
  have HL1 := Lib.hid (fun W => Lead_any hb f1 W)
  have facts : Hid (∀ W, Own w No W (Asn.blk g7 52 #[.int .i64 n.tree, .int .i64 (wrap64 (n.level + 1)), .int .i64 n.stamp, .bool n.has, .string (ofL n.high), .int .i64 n.right, .slice (some ⟨b, o, none⟩) n.list.length c] * (Asn.blk (g5 + 1) 52 #[.int .i64 nb.tree, .int .i64 nb.level, .int .i64 nb.stamp, .bool false, .string ⟨#[]⟩, .int .i64 0, .slice A2 nb.list.length c2] * (Asn.blk g5 52 #[.int .i64 na.tree, .int .i64 na.level, .int .i64 na.stamp, .bool na.has, .string hb, .int .i64 na.right, .slice A1 na.list.length c1] * ((aEnts na (.slice A1 na.list.length c1) * aEnts nb (.slice A2 nb.list.length c2)) * (Asn.blk (g + 1) 83 #[.int .i64 f0, .int .i64 f1] * (Asn.blk g 100 #[.int .i64 pg, .int .i64 n.tree, .int .i64 n.level, .int .i64 n.stamp, .bool n.has, .string (ofL n.high), .int .i64 n.right, .slice (some ⟨b, o, none⟩) n.list.length c] * Asn.emp)))))) → (W.cell? ⟨g + 1, 0, none⟩ = some (.int .i64 f0) ∧ W.cell? ⟨g + 1, 1, none⟩ = some (.int .i64 f1)) ∧ W.cell? ⟨g5, 4, none⟩ = some (.string hb) ∧ W.cell? ⟨g7, 6, none⟩ = some (.slice (some ⟨b, o, none⟩) n.list.length c) ∧ W.frozen? ⟨g7, 6, none⟩ = false) := Lib.hid fun W hW => by
    have h7 := hW.has (Has.l (has_blk g7 _ _))
    have hf := hW.has (Has.r (Has.r (Has.r (Has.r (Has.l (has_blk (g + 1) _ _))))))
    exact ⟨⟨hf.cell 0, hf.cell 1⟩, (hW.has (Has.r (Has.r (Has.l (has_blk g5 _ _))))).cell 4, h7.cell 6, h7.free 6⟩
  go_cut [] (fun wx => ∃ ge : Nat, Hid (Own w No wx (Asn.blk ge 44 #[.string ({ data := #[0, 0, 0, 0, 0, 0, 0, 0, 0] } : ByteArray), .string (ofL (numZ 2 f0)), .bool false, .string hb, .string (ofL (numZ 2 f1)), .bool false] * (Asn.blk g7 52 #[.int .i64 n.tree, .int .i64 (wrap64 (n.level + 1)), .int .i64 n.stamp, .bool n.has, .string (ofL n.high), .int .i64 n.right, .slice (some ⟨ge, 0, none⟩) 2 2] * (Asn.blk (g5 + 1) 52 #[.int .i64 nb.tree, .int .i64 nb.level, .int .i64 nb.stamp, .bool false, .string ⟨#[]⟩, .int .i64 0, .slice A2 nb.list.length c2] * (Asn.blk g5 52 #[.int .i64 na.tree, .int .i64 na.level, .int .i64 na.stamp, .bool na.has, .string hb, .int .i64 na.right, .slice A1 na.list.length c1] * ((aEnts na (.slice A1 na.list.length c1) * aEnts nb (.slice A2 nb.list.length c2)) * (Asn.blk (g + 1) 83 #[.int .i64 f0, .int .i64 f1] * (Asn.blk g 100 #[.int .i64 pg, .int .i64 n.tree, .int .i64 n.level, .int .i64 n.stamp, .bool n.has, .string (ofL n.high), .int .i64 n.right, .slice (some ⟨b, o, none⟩) n.list.length c] * Asn.emp)))))))))
  case first =>
    have t2 := fun {W : World} (h : (W.cell? ⟨g + 1, 0, none⟩ = some (.int .i64 f0) ∧ W.cell? ⟨g + 1, 1, none⟩ = some (.int .i64 f1)) ∧ W.cell? ⟨g5, 4, none⟩ = some (.string hb) ∧ W.cell? ⟨g7, 6, none⟩ = some (.slice (some ⟨b, o, none⟩) n.list.length c) ∧ W.frozen? ⟨g7, 6, none⟩ = false) => And.intro h.1 h.2.1
    have tA := t2 (facts.out _ T3d.out)
    refine wp_region_held_drew (S := fun W : World => (W.cell? ⟨g + 1, 0, none⟩ = some (.int .i64 f0) ∧ W.cell? ⟨g + 1, 1, none⟩ = some (.int .i64 f1)) ∧ W.cell? ⟨g5, 4, none⟩ = some (.string hb)) (by kernel_rfl) tA (fun hHeld => ?_)
    generalize w6.drew = w6d at *
    refine' wpAnyH_take (i := 0) (oi := ?ogz0) (v := ?vgz0) ?hgz0 ?sgz0 ?fgz0 ?zgz0 ?qgz0 ?ygz0 ?agz0 ?rgz0
    case hgz0 => (simp only [List.getElem?_toArray, List.getElem?_cons_succ, List.getElem?_cons_zero]; rfl)
    case sgz0 => kernel_rfl
    case fgz0 => kernel_rfl
    case zgz0 => kernel_rfl
    case qgz0 => exact fun _ _ _ h => h
    case ygz0 => (refine Or.inl ⟨rfl, ?_⟩; intro w hSw; (try dsimp only at hSw); go_simp; try with_reducible rfl)
    case agz0 => assumption
    case rgz0 =>
    simp only [Act.put, List.setIfInBounds_toArray, List.set_cons_zero, List.set_cons_succ]
    refine' wpAnyH_take (i := 1) (oi := ?ogz1) (v := ?vgz1) ?hgz1 ?sgz1 ?fgz1 ?zgz1 ?qgz1 ?ygz1 ?agz1 ?rgz1
    case hgz1 => (simp only [List.getElem?_toArray, List.getElem?_cons_succ, List.getElem?_cons_zero]; rfl)
    case sgz1 => kernel_rfl
    case fgz1 => kernel_rfl
    case zgz1 => kernel_rfl
    case qgz1 => exact fun _ _ _ h => h
    case ygz1 => (refine Or.inl ⟨rfl, ?_⟩; intro w hSw; (try dsimp only at hSw); go_simp; try with_reducible rfl)
    case agz1 => assumption
    case rgz1 =>
    simp only [Act.put, List.setIfInBounds_toArray, List.set_cons_zero, List.set_cons_succ]
    refine' wpAnyH_take (i := 3) (oi := ?ogz3) (v := ?vgz3) ?hgz3 ?sgz3 ?fgz3 ?zgz3 ?qgz3 ?ygz3 ?agz3 ?rgz3
    case hgz3 => (simp only [List.getElem?_toArray, List.getElem?_cons_succ, List.getElem?_cons_zero]; rfl)
    case sgz3 => kernel_rfl
    case fgz3 => kernel_rfl
    case zgz3 => kernel_rfl
    case qgz3 => exact fun _ _ _ h => h
    case ygz3 => (refine Or.inl ⟨rfl, ?_⟩; intro w hSw; (try dsimp only at hSw); go_simp; try with_reducible rfl)
    case agz3 => assumption
    case rgz3 =>
    simp only [Act.put, List.setIfInBounds_toArray, List.set_cons_zero, List.set_cons_succ]
    refine' wpAnyH_take (i := 4) (oi := ?ogz4) (v := ?vgz4) ?hgz4 ?sgz4 ?fgz4 ?zgz4 ?qgz4 ?ygz4 ?agz4 ?rgz4
    case hgz4 => (simp only [List.getElem?_toArray, List.getElem?_cons_succ, List.getElem?_cons_zero]; rfl)
    case sgz4 => kernel_rfl
    case fgz4 => kernel_rfl
    case zgz4 => kernel_rfl
    case qgz4 => exact fun _ _ _ h => h
    case ygz4 => (refine Or.inl ⟨rfl, ?_⟩; intro w hSw; (try dsimp only at hSw); go_simp; try with_reducible rfl)
    case agz4 => assumption
    case rgz4 =>
    simp only [Act.put, List.setIfInBounds_toArray, List.set_cons_zero, List.set_cons_succ]
    refine' wpAnyH_take (i := 5) (oi := ?ogz5) (v := ?vgz5) ?hgz5 ?sgz5 ?fgz5 ?zgz5 ?qgz5 ?ygz5 ?agz5 ?rgz5
    case hgz5 => (simp only [List.getElem?_toArray, List.getElem?_cons_succ, List.getElem?_cons_zero]; rfl)
    case sgz5 => kernel_rfl
    case fgz5 => kernel_rfl
    case zgz5 => kernel_rfl
    case qgz5 => exact fun _ _ _ h => h
    case ygz5 => (refine Or.inl ⟨rfl, ?_⟩; intro w hSw; (try dsimp only at hSw); go_simp; try with_reducible rfl)
    case agz5 => assumption
    case rgz5 =>
    simp only [Act.put, List.setIfInBounds_toArray, List.set_cons_zero, List.set_cons_succ]
    refine' wpAnyH_take (i := 6) (oi := ?ogz6) (v := ?vgz6) ?hgz6 ?sgz6 ?fgz6 ?zgz6 ?qgz6 ?ygz6 ?agz6 ?rgz6
    case hgz6 => (simp only [List.getElem?_toArray, List.getElem?_cons_succ, List.getElem?_cons_zero]; rfl)
    case sgz6 => kernel_rfl
    case fgz6 => kernel_rfl
    case zgz6 => kernel_rfl
    case qgz6 => exact fun _ _ _ h => h
    case ygz6 => (refine Or.inl ⟨rfl, ?_⟩; intro w hSw; (try dsimp only at hSw); go_simp; try with_reducible rfl)
    case agz6 => assumption
    case rgz6 =>
    simp only [Act.put, List.setIfInBounds_toArray, List.set_cons_zero, List.set_cons_succ]
    refine wpAnyH_ready (rs := [2]) (by kernel_rfl) (by simp) ?_
    refine' AllReadyH.cons (o := ?ogz2) ?hgz2 ?kgz2 AllReadyH.nil
    case hgz2 => (simp only [List.getElem?_toArray, List.getElem?_cons_succ, List.getElem?_cons_zero]; rfl)
    case kgz2 =>
    intro K hK
    go_simp
    go_at_call 57
    refine (HL0.out _).mono ?_
    rintro e1 v1 ⟨rfl, hX⟩
    have U1 := Lib.hid (T3d.out.below hX)
    have tB := t2 (facts.out _ U1.out)
    clear hX T3d tA
    refine hK.out _ _ ?_ (fun hHeld => ?_)
    · exact tB
    clear hK K
    (try simp only [Act.put, List.setIfInBounds_toArray, List.set_cons_zero, List.set_cons_succ])
    refine wpAnyH_ready (rs := [7]) (by kernel_rfl) (by simp) ?_
    refine' AllReadyH.cons (o := ?ogz7) ?hgz7 ?kgz7 AllReadyH.nil
    case hgz7 => (simp only [List.getElem?_toArray, List.getElem?_cons_succ, List.getElem?_cons_zero]; rfl)
    case kgz7 =>
    intro K hK
    go_simp
    go_at_call 57
    refine (HL1.out _).mono ?_
    rintro e2 v2 ⟨rfl, hX⟩
    have U2 := Lib.hid (U1.out.below hX)
    have tC := t2 (facts.out _ U2.out)
    clear hX U1 tB
    refine hK.out _ _ ?_ (fun hHeld => ?_)
    · exact tC
    clear hK K
    (try simp only [Act.put, List.setIfInBounds_toArray, List.set_cons_zero, List.set_cons_succ])
    refine wpAnyH_ready (rs := [8]) (by kernel_rfl) (by simp) ?_
    refine' AllReadyH.cons (o := ?ogz8) ?hgz8 ?kgz8 AllReadyH.nil
    case hgz8 => (simp only [List.getElem?_toArray, List.getElem?_cons_succ, List.getElem?_cons_zero]; rfl)
    case kgz8 =>
    intro K hK
    go_simp
    have U3 := Lib.hid (U2.out.alloc #[.string ({ data := #[0, 0, 0, 0, 0, 0, 0, 0, 0] } : ByteArray), .string (ofL (numZ 2 f0)), .bool false, .string hb, .string (ofL (numZ 2 f1)), .bool false] 44)
    have tD := t2 (facts.out _ U3.out.right)
    refine hK.out _ _ ?_ (fun hHeld => ?_)
    · exact tD
    clear hK K
    (try simp only [Act.put, List.setIfInBounds_toArray, List.set_cons_zero, List.set_cons_succ])
    obtain ⟨ge, hge⟩ : ∃ ge, ge = v2.heap.size := ⟨_, rfl⟩
    rw [← hge] at U3 ⊢
    clear hge
    generalize World.alloc _ _ = v3 at *
    have x3 := (facts.out _ U3.out.right).2.2.1
    have x4 := (facts.out _ U3.out.right).2.2.2
    refine' wpAnyH_take (i := 9) (oi := ?ogz9) (v := ?vgz9) ?hgz9 ?sgz9 ?fgz9 ?zgz9 ?qgz9 ?ygz9 ?agz9 ?rgz9
    case hgz9 => (simp only [List.getElem?_toArray, List.getElem?_cons_succ, List.getElem?_cons_zero]; rfl)
    case sgz9 => kernel_rfl
    case fgz9 => kernel_rfl
    case zgz9 => kernel_rfl
    case qgz9 => exact fun _ _ _ h => h
    case ygz9 => (refine Or.inl ⟨rfl, ?_⟩; intro w hSw; (try dsimp only at hSw); go_simp; try with_reducible rfl)
    case agz9 => assumption
    case rgz9 =>
    simp only [Act.put, List.setIfInBounds_toArray, List.set_cons_zero, List.set_cons_succ]
    refine wpAnyH_ready (rs := [10]) (by kernel_rfl) (by simp) ?_
    refine' AllReadyH.cons (o := ?ogz10) ?hgz10 ?kgz10 AllReadyH.nil
    case hgz10 => (simp only [List.getElem?_toArray, List.getElem?_cons_succ, List.getElem?_cons_zero]; rfl)
    case kgz10 =>
    intro K hK
    go_simp
    have U4 := Lib.hid (U3.out.set (Sets.r (Sets.l (sets_blk g7 52 _ 6 (.slice (some ⟨ge, 0, none⟩) 2 2)))))
    have hf4 := U4.out.has (Has.r (Has.r (Has.r (Has.r (Has.r (Has.l (has_blk (g + 1) _ _)))))))
    have hg4 := U4.out.has (Has.r (Has.r (Has.r (Has.l (has_blk g5 _ _)))))
    have z0 := hf4.cell 0
    have z1 := hf4.cell 1
    have z2 := hg4.cell 4
    refine hK.out _ _ ?_ (fun hHeld => ?_)
    · exact ⟨⟨z0, z1⟩, z2⟩
    clear hK K
    (try simp only [Act.put, List.setIfInBounds_toArray, List.set_cons_zero, List.set_cons_succ])
    refine wpAnyH_done (by kernel_rfl) ?_ _
    clear tC tD U2 U3 x3 x4 hf4 hg4 z0 z1 z2 hHeld
    have U5 : Hid (Own w No (v3.setCell ⟨g7, 6, none⟩ (.slice (some ⟨ge, 0, none⟩) 2 2)) (Asn.blk ge 44 #[.string ({ data := #[0, 0, 0, 0, 0, 0, 0, 0, 0] } : ByteArray), .string (ofL (numZ 2 f0)), .bool false, .string hb, .string (ofL (numZ 2 f1)), .bool false] * (Asn.blk g7 52 #[.int .i64 n.tree, .int .i64 (wrap64 (n.level + 1)), .int .i64 n.stamp, .bool n.has, .string (ofL n.high), .int .i64 n.right, .slice (some ⟨ge, 0, none⟩) 2 2] * (Asn.blk (g5 + 1) 52 #[.int .i64 nb.tree, .int .i64 nb.level, .int .i64 nb.stamp, .bool false, .string ⟨#[]⟩, .int .i64 0, .slice A2 nb.list.length c2] * (Asn.blk g5 52 #[.int .i64 na.tree, .int .i64 na.level, .int .i64 na.stamp, .bool na.has, .string hb, .int .i64 na.right, .slice A1 na.list.length c1] * ((aEnts na (.slice A1 na.list.length c1) * aEnts nb (.slice A2 nb.list.length c2)) * (Asn.blk (g + 1) 83 #[.int .i64 f0, .int .i64 f1] * (Asn.blk g 100 #[.int .i64 pg, .int .i64 n.tree, .int .i64 n.level, .int .i64 n.stamp, .bool n.has, .string (ofL n.high), .int .i64 n.right, .slice (some ⟨b, o, none⟩) n.list.length c] * Asn.emp)))))))) := Lib.hid (by have h := U4.out; simp only [List.setIfInBounds_toArray, List.set_cons_zero, List.set_cons_succ] at h; exact h)
    go_wp2_with fail
    go_meet
    case rel => exact ⟨ge, U5⟩
  case rest =>
  clear T3 T3d facts HL0 HL1
  obtain ⟨ge, S5⟩ := hcut
  have hb7 := S5.out.has (Has.r (Has.l (has_blk g7 _ _)))
  have hb6 := S5.out.has (Has.r (Has.r (Has.l (has_blk (g5 + 1) _ _))))
  have hb5 := S5.out.has (Has.r (Has.r (Has.r (Has.l (has_blk g5 _ _)))))
  have hbf := S5.out.has (Has.r (Has.r (Has.r (Has.r (Has.r (Has.l (has_blk (g + 1) _ _)))))))
  have hbg := S5.out.has (Has.r (Has.r (Has.r (Has.r (Has.r (Has.r (Has.l (has_blk g _ _))))))))
  obtain ⟨⟨c0, c1', c2', c3, c4, c5, c6⟩, -⟩ := seven7 hb7
  obtain ⟨⟨d0, d1, d2, d3, d4, d5, d6⟩, -⟩ := seven7 hb6
  obtain ⟨⟨e0, e1, e2, e3, e4, e5, e6⟩, -⟩ := seven7 hb5
  have y0 : wc.cell? ⟨g + 1, 0, none⟩ = some (.int .i64 f0) := hbf.cell 0
  have y1 : wc.cell? ⟨g + 1, 1, none⟩ = some (.int .i64 f1) := hbf.cell 1
  obtain ⟨k0, k1, k2, k3, k4, k5, k6, k7⟩ := eight_of hbg
  clear hb7 hb6 hb5 hbf hbg
  have S6 := Lib.hid (S5.out.alloc #[.int .i64 pg, .int .i64 n.tree, .int .i64 (wrap64 (n.level + 1)), .int .i64 n.stamp, .bool n.has, .string (ofL n.high), .int .i64 n.right, .slice (some ⟨ge, 0, none⟩) 2 2, .int .i64 f0, .int .i64 na.tree, .int .i64 na.level, .int .i64 na.stamp, .bool na.has, .string hb, .int .i64 na.right, .slice A1 na.list.length c1, .int .i64 f1, .int .i64 nb.tree, .int .i64 nb.level, .int .i64 nb.stamp, .bool false, .string ⟨#[]⟩, .int .i64 0, .slice A2 nb.list.length c2] 73)
  clear S5
  go_wp2_with fail
  refine bodyPost_ret (res1 rfl rfl) rfl ⟨_, [⟨pg, ({ n with level := wrap64 (n.level + 1), list := [⟨low, numZ 2 f0, false⟩, ⟨na.high, numZ 2 f1, false⟩] } : Nod), .slice (some ⟨ge, 0, none⟩) 2 2⟩, ⟨f0, na, .slice A1 na.list.length c1⟩, ⟨f1, ({ nb with has := false, high := [], right := 0 } : Nod), .slice A2 nb.list.length c2⟩], rfl, rfl, ?_⟩
  have hhb := HHB.out
  clear HHB
  subst hhb
  have h1 := (S6.out.imp (Imp.l (blk_vec (cs := [.int .i64 pg, .int .i64 n.tree, .int .i64 (wrap64 (n.level + 1)), .int .i64 n.stamp, .bool n.has, .string (ofL n.high), .int .i64 n.right, .slice (some ⟨ge, 0, none⟩) 2 2, .int .i64 f0, .int .i64 na.tree, .int .i64 na.level, .int .i64 na.stamp, .bool na.has, .string (ofL na.high), .int .i64 na.right, .slice A1 na.list.length c1, .int .i64 f1, .int .i64 nb.tree, .int .i64 nb.level, .int .i64 nb.stamp, .bool false, .string ⟨#[]⟩, .int .i64 0, .slice A2 nb.list.length c2]) 3 8 rfl (by unfold maxLen; omega)))).imp (Imp.r (Imp.l (blk_vec (cs := [.string ({ data := #[0, 0, 0, 0, 0, 0, 0, 0, 0] } : ByteArray), .string (ofL (numZ 2 f0)), .bool false, .string (ofL na.high), .string (ofL (numZ 2 f1)), .bool false]) 2 3 rfl (by unfold maxLen; omega))))
  have hl := low_bytes
  rw [← hl] at h1
  exact (h1.re (show _ = (Asn.blk g7 52 #[.int .i64 n.tree, .int .i64 (wrap64 (n.level + 1)), .int .i64 n.stamp, .bool n.has, .string (ofL n.high), .int .i64 n.right, .slice (some ⟨ge, 0, none⟩) 2 2] * (Asn.blk (g5 + 1) 52 #[.int .i64 nb.tree, .int .i64 nb.level, .int .i64 nb.stamp, .bool false, .string ⟨#[]⟩, .int .i64 0, .slice A2 nb.list.length c2] * (Asn.blk g5 52 #[.int .i64 na.tree, .int .i64 na.level, .int .i64 na.stamp, .bool na.has, .string (ofL na.high), .int .i64 na.right, .slice A1 na.list.length c1] * (Asn.blk (g + 1) 83 #[.int .i64 f0, .int .i64 f1] * (Asn.blk g 100 #[.int .i64 pg, .int .i64 n.tree, .int .i64 n.level, .int .i64 n.stamp, .bool n.has, .string (ofL n.high), .int .i64 n.right, .slice (some ⟨b, o, none⟩) n.list.length c] * Asn.emp))))) * (Asn.vec 73 8 (.slice (some ⟨wc.heap.size, 0, none⟩) 3 3) 3 (spL [⟨pg, ({ n with level := wrap64 (n.level + 1), list := [⟨low, numZ 2 f0, false⟩, ⟨na.high, numZ 2 f1, false⟩] } : Nod), .slice (some ⟨ge, 0, none⟩) 2 2⟩, ⟨f0, na, .slice A1 na.list.length c1⟩, ⟨f1, ({ nb with has := false, high := [], right := 0 } : Nod), .slice A2 nb.list.length c2⟩]) * aLs [⟨pg, ({ n with level := wrap64 (n.level + 1), list := [⟨low, numZ 2 f0, false⟩, ⟨na.high, numZ 2 f1, false⟩] } : Nod), .slice (some ⟨ge, 0, none⟩) 2 2⟩, ⟨f0, na, .slice A1 na.list.length c1⟩, ⟨f1, ({ nb with has := false, high := [], right := 0 } : Nod), .slice A2 nb.list.length c2⟩]) by show _ = _ * (_ * (Asn.vec 44 3 (.slice (some ⟨ge, 0, none⟩) 2 2) 2 [.string (ofL low), .string (ofL (numZ 2 f0)), .bool false, .string (ofL na.high), .string (ofL (numZ 2 f1)), .bool false] * (aEnts na (.slice A1 na.list.length c1) * (aEnts nb (.slice A2 nb.list.length c2) * Asn.emp)))); rw [mul_emp, mul_emp, show spL [⟨pg, ({ n with level := wrap64 (n.level + 1), list := [⟨low, numZ 2 f0, false⟩, ⟨na.high, numZ 2 f1, false⟩] } : Nod), .slice (some ⟨ge, 0, none⟩) 2 2⟩, ⟨f0, na, .slice A1 na.list.length c1⟩, ⟨f1, ({ nb with has := false, high := [], right := 0 } : Nod), .slice A2 nb.list.length c2⟩] = [.int .i64 pg, .int .i64 n.tree, .int .i64 (wrap64 (n.level + 1)), .int .i64 n.stamp, .bool n.has, .string (ofL n.high), .int .i64 n.right, .slice (some ⟨ge, 0, none⟩) 2 2, .int .i64 f0, .int .i64 na.tree, .int .i64 na.level, .int .i64 na.stamp, .bool na.has, .string (ofL na.high), .int .i64 na.right, .slice A1 na.list.length c1, .int .i64 f1, .int .i64 nb.tree, .int .i64 nb.level, .int .i64 nb.stamp, .bool false, .string ⟨#[]⟩, .int .i64 0, .slice A2 nb.list.length c2] from rfl]; ac_rfl)).right
end Go.Proofs.Ythoaangmekkcmaa.Bk
