/- slices.Insert, slices.Delete, of entries. -/
import Derived.Test.YthoaangmekkcmaaNdV
import Derived.Test.YthoaangmekkcmaaShelf
import Derived.Test.YthoaangmekkcmaaTrI
import Derived.Laws.Externs
import Derived.Shelf.RegionOpenPlain

namespace Go.Proofs.Ythoaangmekkcmaa.Bk
open Go.ChangeShapes Go.WideShapes Go.ChangeAt Go.RowKit Go.PlainAid Aid Tr
set_option linter.unusedVariables false
set_option linter.unusedSimpArgs false

/-! slices.Insert: entry. -/
theorem info_entry : (Try.prog.info? 44).map (fun i => (i.zero, i.size, i.bytes)) = some (some (Value.agg #[.string ⟨#[]⟩, .string ⟨#[]⟩, .bool false]), 3, 40) := by kernel_rfl
theorem size_entry : (Try.prog.info? 44).map (·.size) = some 3 := by kernel_rfl
theorem sizeOf_entry (w : World) : (Go.sizeOf 44).run Try.prog w = .ok 3 w := by
  cases hq : Try.prog.info? 44 with
  | none => have := size_entry; simp [hq] at this
  | some i =>
    have hi : i.size = 3 := by have := size_entry; simpa [hq] using this
    simp [Go.sizeOf, typeInfo, hq, hi]
section
variable (g n cap i vb : Nat) (xs ys : List Value) (tv : TypeId) (w : World)
set_option maxHeartbeats 4000000 in
set_option maxRecDepth 100000 in
theorem insIn_entry (hi : i < n) (hroom : n + 1 ≤ cap) (hv : Vec w 44 3 (.slice (some ⟨g, 0, none⟩) n cap) n xs) (hvb : w.heap[vb]? = some (.cells ys.toArray tv (0, 0))) (hy : ys.length = 3)
    (hy1 : ∀ v ∈ ys, v.oneCell' = true) (hx1 : ∀ v ∈ xs, v.oneCell' = true) (hne : vb ≠ g) :
    Calls Try.prog 62 #[.slice (some ⟨g, 0, none⟩) n cap, .int .i64 i, .slice (some ⟨vb, 0, none⟩) 1 1] w fun e w' =>
      e = .returned (.slice (some ⟨g, 0, none⟩) (n + 1) cap) ∧ Vec w' 44 3 (.slice (some ⟨g, 0, none⟩) (n + 1) cap) (n + 1) (xs.take (i * 3) ++ ys ++ xs.drop (i * 3)) ∧ Chg (· = g) w w' := by
  obtain ⟨cur, hg, hnc, hcm, hcl, hct, hxl⟩ := hv.opened
  unfold maxLen at hcm
  have hsz := size_entry
  have hxn : (xs.drop (i * 3)).length = (n - i) * 3 := by rw [List.length_drop, hxl]; omega
  have hov : ∀ lb cb, (callFunc 71 #[.slice (some ⟨vb, 0, none⟩) 1 1, .slice (some ⟨g, i * 3 + 3, none⟩) lb cb]).run Try.prog w = .ok (.value (.bool false)) w := fun lb cb => by
    rw [run_callFunc_extern Try.func71 (by kernel_rfl) (by kernel_rfl) (by kernel_rfl) (e := Extern.SlicesOverlaps.overlaps #[27, 27] #[4]) (by kernel_rfl),
      Lib.run_overlaps_apart w 27 4 44 Try.underlying27 3 sizeOf_entry ⟨vb, 0, none⟩ ⟨g, i * 3 + 3, none⟩ 1 1 lb cb hne tv 44 3 cur.length (by simp [World.shape?, hvb, hy]) (by simp [World.shape?, hg]) (by rw [hcl]; omega) (by simp [World.frozen?, hvb]) (by simp [World.frozen?, hvb])]
    rfl
  have hcp1 : ∀ ty dc sc, (Builtin.copy_ #[27, 27] ty #[.slice (some ⟨g, i * 3 + 3, none⟩) (n - i) dc, .slice (some ⟨g, i * 3, none⟩) (n + 1 - i) sc]).run Try.prog w.drew = .ok (goInt (Nat.min (n + 1 - i) (n - i) : Nat)) (w.drew.setRow g (lay cur (i * 3 + 3) (xs.drop (i * 3))).toArray) := fun ty dc sc =>
    run_copy_rows w.drew _ _ ty 44 3 g (i * 3 + 3) (n - i) dc ⟨g, i * 3, none⟩ (n + 1 - i) sc cur _ (xs.drop (i * 3)) Try.underlying27 hsz hg (by rw [hxn]; congr 1; simp only [Nat.min_def]; split <;> omega)
      (fun j v hj => by
        rw [Addr.add_lit]
        exact hv.cell (j := i * 3 + j) (by rwa [List.getElem?_drop] at hj)) (by rw [hxn, hcl]; omega) (fun v h => hx1 v (List.mem_of_mem_drop h))
  obtain ⟨W1, hW1⟩ : ∃ W1, W1 = w.drew.setRow g (lay cur (i * 3 + 3) (xs.drop (i * 3))).toArray := ⟨_, rfl⟩
  have hg1 : W1.heap[g]? = some (.cells (lay cur (i * 3 + 3) (xs.drop (i * 3))).toArray 44 (0, 0)) := by rw [hW1]; exact setRow_heap w.drew g cur.toArray _ _ _ hg
  have hvb1 : W1.heap[vb]? = some (.cells ys.toArray tv (0, 0)) := by rw [hW1, setRow_other w.drew g vb _ hne]; exact hvb
  have hl1 : (lay cur (i * 3 + 3) (xs.drop (i * 3))).length = cur.length := lay_len _ _ _ (by rw [hxn, hcl]; omega)
  have hcp2 : ∀ W : World, W.heap = W1.heap → ∀ ty dc, (Builtin.copy_ #[27, 27] ty #[.slice (some ⟨g, i * 3, none⟩) (n + 1 - i) dc, .slice (some ⟨vb, 0, none⟩) 1 1]).run Try.prog W = .ok (goInt (Nat.min 1 (n + 1 - i) : Nat)) (W.setRow g (lay (lay cur (i * 3 + 3) (xs.drop (i * 3))) (i * 3) ys).toArray) := fun W hW ty dc =>
    run_copy_rows W _ _ ty 44 3 g (i * 3) (n + 1 - i) dc ⟨vb, 0, none⟩ 1 1 _ _ ys Try.underlying27 hsz (by rw [hW]; exact hg1) (by rw [hy]; simp only [Nat.min_def]; split <;> omega)
      (fun j v hj => by
        rw [Addr.add_lit, Nat.zero_add]
        simp [World.cell?, hW, hvb1, hj]) (by rw [hl1, hy, hcl]; omega) hy1
  have hlast := lay_in cur xs ys (i * 3) 3 (n * 3) hct hxl (by omega) hy (by rw [hcl]; omega)
  have e1 : (i + 1) * 3 = i * 3 + 3 := by omega
  have HL := Lib.hid hlast
  have HG1 := Lib.hid hg1
  have HL1 := Lib.hid hl1
  have HCL := Lib.hid hcl
  have HW1 := Lib.hid hW1
  rw [← hW1] at hcp1
  clear hlast hg1 hl1 hcl hW1 hv hvb hvb1 hct hxl hxn hy1 hx1
  generalize HLC : lay cur (i * 3 + 3) (xs.drop (i * 3)) = C1 at *
  generalize HLD : lay C1 (i * 3) ys = C2 at *
  go_enter Try.func62, Try.ntmps62
  go_wp2_with (simp only [hov])
  have mixed : Try.prog.follows Departure.mixedOrders = true := by kernel_rfl
  have u1 := run_underlying (P := Try.prog) Try.underlying27
  have hw1 : IntKind.i64.wrap ((i : Int) + 1) = (i : Int) + 1 := by rw [IntKind.wrap_i64]; omega
  have hb1 : (0 : Int) ≤ (i : Int) + 1 := by omega
  have hin : i ≤ n := by omega
  have htn : ((i : Int) + 1).toNat = i + 1 := by omega
  have hb2 : ¬ (cap = i + 1) := by omega
  have hb3 : (i : Int) ≤ (n : Int) + 1 := by omega
  have hb4 : ¬ (cap = i) := by omega
  have hb5 : (i : Int) + 1 ≤ (n : Int) + 1 := by omega
  go_region_law_o (refine step_known rfl .copy Builtin.copy_ (fun _ _ _ _ => rfl) _ #[27, 27] rfl _ (by simp [Act.eval, Act.put]) (hcp1 _ _ _) ?_)
  go_wp2_with (at_builtin; refine list_known rfl .copy Builtin.copy_ (fun _ _ _ _ => rfl) _ #[27, 27] rfl _ rfl (hcp2 _ rfl _ _) ?_)
  go_returns
  have hg1 := HG1.out
  have hl1 := HL1.out
  have hcl := HCL.out
  have hl2 : C2.length = cur.length := by rw [← HLD, lay_len _ _ _ (by rw [hy]; omega), hl1]
  refine ⟨rfl, Vec.built C2 (setRow_heap _ g _ _ _ _ hg1) hroom (by unfold maxLen; omega) (by rw [hl2, hcl]) (by rw [show (n + 1) * 3 = n * 3 + 3 by omega]; exact HL.out), ?_⟩
  have h1 : Chg (· = g) w W1 := by rw [HW1.out]; exact (Chg.refl (· = g) w).drew.trans (chg_setRow w.drew g _) (fun _ _ h => h)
  exact h1.trans (chg_setRow _ g _) (fun _ _ h => h)
set_option maxHeartbeats 4000000 in
set_option maxRecDepth 100000 in
theorem insGrow_entry (hi : i < n) (hroom : cap < n + 1) (hbig : (n + 1) * 40 ≤ 140737488355328) (hv : Vec w 44 3 (.slice (some ⟨g, 0, none⟩) n cap) n xs) (hvb : w.heap[vb]? = some (.cells ys.toArray tv (0, 0))) (hy : ys.length = 3)
    (hy1 : ∀ v ∈ ys, v.oneCell' = true) (hx1 : ∀ v ∈ xs, v.oneCell' = true) (hne : vb ≠ g) :
    Calls Try.prog 62 #[.slice (some ⟨g, 0, none⟩) n cap, .int .i64 i, .slice (some ⟨vb, 0, none⟩) 1 1] w fun e w' =>
      ∃ c', e = .returned (.slice (some ⟨w.heap.size, 0, none⟩) (n + 1) c') ∧ Vec w' 44 3 (.slice (some ⟨w.heap.size, 0, none⟩) (n + 1) c') (n + 1) (xs.take (i * 3) ++ ys ++ xs.drop (i * 3)) ∧ Chg (· = g) w w' := by
  obtain ⟨cur, hg, hnc, hcm, hcl, hct, hxl⟩ := hv.opened
  unfold maxLen at hcm
  have hsz := size_entry
  obtain ⟨i0, hi0, hzz⟩ := Option.map_eq_some_iff.1 info_entry
  simp only [Prod.mk.injEq] at hzz
  obtain ⟨hz0, hzs, hzb⟩ := hzz
  have hgw : g < w.heap.size := by
    rcases Nat.lt_or_ge g w.heap.size with h | h
    · exact h
    · rw [Array.getElem?_eq_none h] at hg; cases hg
  have hvw : vb < w.heap.size := by
    rcases Nat.lt_or_ge vb w.heap.size with h | h
    · exact h
    · rw [Array.getElem?_eq_none h] at hvb; cases hvb
  have hold : (Builtin.firstCells i0.size i (.slice (some ⟨g, 0, none⟩) i cap)).run Try.prog w.drew = .ok (xs.take (i * 3)).toArray w.drew := by
    rw [hzs]
    exact run_firstCells_some w.drew 3 i ⟨g, 0, none⟩ i cap (xs.take (i * 3)) (by rw [List.length_take, hxl]; omega) (fun j v hj => by
      rw [Addr.add_lit, Nat.zero_add]
      rw [List.getElem?_take] at hj
      split at hj
      · exact hv.cell hj
      · cases hj)
  have hik : i + (n + 1 - i) = n + 1 := by omega
  have hkk : (n : Int) + 1 - (i : Int) = ((n + 1 - i : Nat) : Int) := by omega
  have hrz : ∀ ty, (Builtin.append_ #[27, 3] ty #[.slice (some ⟨g, 0, none⟩) i cap, .int .i64 ((n : Int) + 1 - (i : Int))]).run Try.prog w =
      .ok (.slice (some ⟨w.heap.size, 0, none⟩) (n + 1) (grownCap w (n + 1) cap 44)) (w.drew.alloc (.cells ((xs.take (i * 3)).toArray ++ Builtin.zeroCells (Value.agg #[.string ⟨#[]⟩, .string ⟨#[]⟩, .bool false]).cells (n + 1 - i) ++ Builtin.zeroCells (Value.agg #[.string ⟨#[]⟩, .string ⟨#[]⟩, .bool false]).cells (grownCap w (n + 1) cap 44 - (n + 1))) 44)) := fun ty => by
    have h := Lib.run_append_grow_zeros w 27 3 ty 44 i0 _ .i64 .i64 Try.underlying27 Try.underlying3 hi0 hz0 (some ⟨g, 0, none⟩) i cap (xs.take (i * 3)) hold (n + 1 - i) (by omega) (by omega) (by omega) (by omega) (by rw [hzb]; omega) (by rw [hzb, hik]; exact growslice_fits hroom hbig)
    rw [hik] at h
    rw [hkk]
    exact h
  have hge := grownCap_ge w (n + 1) cap 44
  have hcm2 : grownCap w (n + 1) cap 44 ≤ maxLen := grownCap_le_maxLen w (n + 1) cap 44 (by unfold maxLen; omega)
  generalize grownCap w (n + 1) cap 44 = G at *
  obtain ⟨ROW, hROW⟩ : ∃ ROW : List Value, ROW = ((xs.take (i * 3)).toArray ++ Builtin.zeroCells (Value.agg #[.string ⟨#[]⟩, .string ⟨#[]⟩, .bool false]).cells (n + 1 - i) ++ Builtin.zeroCells (Value.agg #[.string ⟨#[]⟩, .string ⟨#[]⟩, .bool false]).cells (G - (n + 1))).toList := ⟨_, rfl⟩
  have hRa : (xs.take (i * 3)).toArray ++ Builtin.zeroCells (Value.agg #[.string ⟨#[]⟩, .string ⟨#[]⟩, .bool false]).cells (n + 1 - i) ++ Builtin.zeroCells (Value.agg #[.string ⟨#[]⟩, .string ⟨#[]⟩, .bool false]).cells (G - (n + 1)) = ROW.toArray := by rw [hROW, Array.toArray_toList]
  rw [hRa] at hrz
  have hxi : (xs.take (i * 3)).length = i * 3 := by rw [List.length_take, hxl]; omega
  have hzc : (Value.agg #[.string ⟨#[]⟩, .string ⟨#[]⟩, .bool false]).cells.size = 3 := by kernel_rfl
  have hRl : ROW.length = G * 3 := by
    rw [hROW]
    simp only [Array.length_toList, Array.size_append, List.size_toArray, size_zeroCells, hzc, hxi]
    omega
  have hRt : ROW.take (i * 3) = xs.take (i * 3) := by
    rw [hROW]
    simp only [Array.toList_append, List.append_assoc]
    rw [List.take_append_of_le_length (by rw [hxi]; exact Nat.le_refl _), List.take_of_length_le (by rw [hxi]; exact Nat.le_refl _)]
  have hxn : (xs.drop (i * 3)).length = (n - i) * 3 := by rw [List.length_drop, hxl]; omega
  obtain ⟨W1, hW1⟩ : ∃ W1, W1 = w.drew.alloc (.cells ROW.toArray 44) := ⟨_, rfl⟩
  rw [← hW1] at hrz
  have hg1 : W1.heap[w.heap.size]? = some (.cells ROW.toArray 44 (0, 0)) := by rw [hW1]; exact heap_alloc_new w.drew _
  have hold1 : ∀ k, k < w.heap.size → W1.heap[k]? = w.heap[k]? := fun k hk => by rw [hW1]; exact Below.heap_alloc w.drew _ _ hk
  have hcp1 : ∀ W : World, W.heap = W1.heap → ∀ ty dc, (Builtin.copy_ #[27, 27] ty #[.slice (some ⟨w.heap.size, i * 3, none⟩) (n + 1 - i) dc, .slice (some ⟨vb, 0, none⟩) 1 1]).run Try.prog W = .ok (goInt (Nat.min 1 (n + 1 - i) : Nat)) (W.setRow w.heap.size (lay ROW (i * 3) ys).toArray) := fun W hW ty dc =>
    run_copy_rows W _ _ ty 44 3 w.heap.size (i * 3) (n + 1 - i) dc ⟨vb, 0, none⟩ 1 1 ROW _ ys Try.underlying27 hsz (by rw [hW]; exact hg1) (by rw [hy]; simp only [Nat.min_def]; split <;> omega)
      (fun j v hj => by
        rw [Addr.add_lit, Nat.zero_add]
        simp [World.cell?, hW, hold1 vb hvw, hvb, hj]) (by rw [hRl, hy]; omega) hy1
  have hll : (lay ROW (i * 3) ys).length = ROW.length := lay_len _ _ _ (by rw [hRl, hy]; omega)
  have hcp2 : ∀ W : World, W.heap = (W1.setRow w.heap.size (lay ROW (i * 3) ys).toArray).heap → ∀ ty dc sc, (Builtin.copy_ #[27, 27] ty #[.slice (some ⟨w.heap.size, i * 3 + 3, none⟩) (n - i) dc, .slice (some ⟨g, i * 3, none⟩) (n - i) sc]).run Try.prog W =
      .ok (goInt (Nat.min (n - i) (n - i) : Nat)) (W.setRow w.heap.size (lay (lay ROW (i * 3) ys) (i * 3 + 3) (xs.drop (i * 3))).toArray) := fun W hW ty dc sc =>
    run_copy_rows W _ _ ty 44 3 w.heap.size (i * 3 + 3) (n - i) dc ⟨g, i * 3, none⟩ (n - i) sc _ _ (xs.drop (i * 3)) Try.underlying27 hsz (by rw [hW]; exact setRow_heap W1 _ _ _ _ _ hg1) (by rw [hxn]; congr 1; exact (Nat.min_self _).symm)
      (fun j v hj => by
        rw [Addr.add_lit]
        have h0 := hv.cell (j := i * 3 + j) (by rwa [List.getElem?_drop] at hj)
        have h1 : W.heap[g]? = w.heap[g]? := by rw [hW, setRow_other W1 _ g _ (by omega), hold1 g hgw]
        rw [← h0]; exact World.cell?_of_block (w := w) (a := ⟨g, i * 3 + j, none⟩) h1) (by rw [hxn, hll, hRl]; omega) (fun v h => hx1 v (List.mem_of_mem_drop h))
  have hlast : (lay (lay ROW (i * 3) ys) (i * 3 + 3) (xs.drop (i * 3))).take ((n + 1) * 3) = xs.take (i * 3) ++ ys ++ xs.drop (i * 3) := by
    have h1 : (lay ROW (i * 3) ys).take (i * 3 + 3) = xs.take (i * 3) ++ ys := by
      unfold lay
      rw [hRt, List.take_append_of_le_length (by rw [List.length_append, hxi, hy]; omega), List.take_of_length_le (by rw [List.length_append, hxi, hy]; omega)]
    rw [show lay (lay ROW (i * 3) ys) (i * 3 + 3) (xs.drop (i * 3)) = (lay ROW (i * 3) ys).take (i * 3 + 3) ++ xs.drop (i * 3) ++ (lay ROW (i * 3) ys).drop (i * 3 + 3 + (xs.drop (i * 3)).length) from rfl, show (n + 1) * 3 = n * 3 + 3 by omega, h1, List.take_append_of_le_length (by simp only [List.length_append, hxi, hy, hxn]; omega), List.take_of_length_le (by simp only [List.length_append, hxi, hy, hxn]; omega)]
  have e1 : (i + 1) * 3 = i * 3 + 3 := by omega
  have HL := Lib.hid hlast
  have HG1 := Lib.hid hg1
  have HW1 := Lib.hid hW1
  have HLL := Lib.hid hll
  have HRL := Lib.hid hRl
  have HCM := Lib.hid hcm2
  have HXN := Lib.hid hxn
  clear hlast hg1 hW1 hll hRl hold hold1 hRa hROW hRt hxi hzc hv hvb hct hcl hxl hxn hy1 hx1 hi0 hz0 hzs hzb hg hcm2 hkk hik
  generalize HLC : lay ROW (i * 3) ys = C1 at *
  generalize HLD : lay C1 (i * 3 + 3) (xs.drop (i * 3)) = C2 at *
  generalize HH : w.heap.size = h0 at *
  have mixed : Try.prog.follows Departure.mixedOrders = true := by kernel_rfl
  have u1 := run_underlying (P := Try.prog) Try.underlying27
  have hw1 : IntKind.i64.wrap ((i : Int) + 1) = (i : Int) + 1 := by rw [IntKind.wrap_i64]; omega
  have hw2 : IntKind.i64.wrap ((n : Int) + 1 - (i : Int)) = (n : Int) + 1 - (i : Int) := by rw [IntKind.wrap_i64]; omega
  have hb1 : (0 : Int) ≤ (i : Int) + 1 := by omega
  have hin : i ≤ n := by omega
  have htn : ((i : Int) + 1).toNat = i + 1 := by omega
  have hb4 : ¬ (cap = i) := by omega
  have hb5 : (i : Int) + 1 ≤ (n : Int) + 1 := by omega
  have hb6 : (i : Int) ≤ (n : Int) + 1 := by omega
  have hb7 : ¬ (G = i) := by omega
  have hb9 : ¬ (G = i + 1) := by omega
  have hb8 : (i : Int) ≤ (cap : Int) := by omega
  go_enter Try.func62, Try.ntmps62
  go_wp2_with (first
    | (at_builtin; refine list_known rfl .append Builtin.append_ (fun _ _ _ _ => rfl) _ #[27, 3] rfl #[.slice (some ⟨g, 0, none⟩) i cap, .int .i64 ((n : Int) + 1 - (i : Int))] (by simp [Act.eval, Act.put]) (hrz _) ?_)
    | (at_builtin; refine list_known rfl .copy Builtin.copy_ (fun _ _ _ _ => rfl) _ #[27, 27] rfl #[.slice (some ⟨h0, i * 3, none⟩) (n + 1 - i) (G - i), .slice (some ⟨vb, 0, none⟩) 1 1] (by simp [Act.eval, Act.put]) (hcp1 _ rfl _ _) ?_))
  have hT := hcp2 (W1.setRow h0 C1.toArray).drew rfl 3 (G - (i + 1)) (cap - i)
  clear hcp2
  go_region_law_o (refine step_known rfl .copy Builtin.copy_ (fun _ _ _ _ => rfl) _ #[27, 27] rfl #[.slice (some ⟨h0, i * 3 + 3, none⟩) (n - i) (G - (i + 1)), .slice (some ⟨g, i * 3, none⟩) (n - i) (cap - i)] (by simp [Act.eval, Act.put, hb9]) hT ?_)
  go_wp2_with fail
  go_returns
  have hg1 := HG1.out
  have hl1 := HLL.out
  have hcl := HRL.out
  have hxn := HXN.out
  have hl2 : C2.length = ROW.length := by
    have := lay_len C1 (i * 3 + 3) (xs.drop (i * 3)) (by omega)
    rw [← HLD, this, hl1]
  refine ⟨G, rfl, Vec.built C2 (setRow_heap _ h0 _ _ _ _ (setRow_heap _ h0 _ _ _ _ hg1)) hge HCM.out (by rw [hl2, hcl]) (by first | exact HL.out | (rw [← List.append_assoc]; exact HL.out)), ?_⟩
  have h1 : Chg (· = g) w W1 := by rw [HW1.out]; exact ((Chg.refl (· = g) w).drew).alloc _
  have h2 := (h1.trans (chg_setRow W1 h0 C1.toArray) (fun k h e => by omega))
  exact (h2.drew).trans (chg_setRow _ h0 C2.toArray) (fun k h e => by omega)
set_option maxHeartbeats 4000000 in
set_option maxRecDepth 100000 in
theorem insEnd_entry (v : Value) (hbig : (n + 1) * 40 ≤ 140737488355328) (hv : Vec w 44 3 v n xs) (hvb : w.heap[vb]? = some (.cells ys.toArray tv (0, 0))) (hy : ys.length = 3) (hy1 : ∀ v ∈ ys, v.oneCell' = true) :
    Calls Try.prog 62 #[v, .int .i64 n, .slice (some ⟨vb, 0, none⟩) 1 1] w fun e w' =>
      ∃ v', e = .returned v' ∧ Vec w' 44 3 v' (n + 1) (xs ++ ys) ∧ Chg (VB v) w w' ∧ Fresh w (VB v) (VB v') := by
  have hsrc : ∀ W : World, W.heap = w.heap → Src Try.prog 3 27 (.slice (some ⟨vb, 0, none⟩) 1 1) 1 ys W := fun W hW => Src.ofSlice W Try.underlying27 ⟨vb, 0, none⟩ 1 1 ys (by rw [hy]) (fun j u hj => by
    rw [Addr.add_lit, Nat.zero_add]
    simp [World.cell?, hW, hvb, hj]) hy1
  obtain ⟨A, c, rfl⟩ := hv.slice
  rcases hv.forms with ⟨he, hz⟩ | ⟨gg, cc, he, -, hnc, hcm⟩
  · cases he
    go_enter Try.func62, Try.ntmps62
    go_wp2_with (at_builtin; refine wpList_append_vec rfl _ _ 27 27 rfl 44 _ 3 40 Try.underlying27 info_entry (by kernel_rfl) (by decide) (.slice none 0 0) 0 xs rfl hv _ rfl 1 ys (hsrc _ rfl) (by unfold maxLen; omega) (by omega) ?_; intro v' w' h1 h2 h3)
    all_goals
      go_returns
      exact ⟨v', rfl, h1, h2, h3⟩
  · simp only [Value.slice.injEq, true_and] at he
    obtain ⟨rfl, rfl⟩ := he
    unfold maxLen at hcm
    have hb1 : n ≤ n := Nat.le_refl _
    go_enter Try.func62, Try.ntmps62
    go_wp2_with (at_builtin; refine wpList_append_vec rfl _ _ 27 27 rfl 44 _ 3 40 Try.underlying27 info_entry (by kernel_rfl) (by decide) (.slice (some ⟨gg, 0, none⟩) n c) n xs rfl hv _ rfl 1 ys (hsrc _ rfl) (by unfold maxLen; omega) (by omega) ?_; intro v' w' h1 h2 h3)
    all_goals
      go_returns
      exact ⟨v', rfl, h1, h2, h3⟩
theorem insert_entry (v : Value) (hi : i ≤ n) (hbig : (n + 1) * 40 ≤ 140737488355328) (hv : Vec w 44 3 v n xs) (hvb : w.heap[vb]? = some (.cells ys.toArray tv (0, 0))) (hy : ys.length = 3)
    (hy1 : ∀ v ∈ ys, v.oneCell' = true) (hx1 : ∀ v ∈ xs, v.oneCell' = true) (hne : ¬ VB v vb) :
    Calls Try.prog 62 #[v, .int .i64 i, .slice (some ⟨vb, 0, none⟩) 1 1] w fun e w' =>
      ∃ v', e = .returned v' ∧ Vec w' 44 3 v' (n + 1) (xs.take (i * 3) ++ ys ++ xs.drop (i * 3)) ∧ Chg (VB v) w w' ∧ Fresh w (VB v) (VB v') := by
  by_cases hin : i = n
  · subst hin
    have hl := hv.len
    have := insEnd_entry i vb xs ys tv w v hbig hv hvb hy hy1
    rw [show xs.take (i * 3) = xs from List.take_of_length_le (by omega), show xs.drop (i * 3) = [] from List.drop_eq_nil_of_le (by omega), List.append_nil]
    exact this
  · rcases hv.forms with ⟨he, hz⟩ | ⟨g, cap, rfl, hgw, hnc, hcm⟩
    · omega
    · have hgv : vb ≠ g := fun e => hne (by rw [e]; rfl)
      by_cases hr : n + 1 ≤ cap
      · refine (insIn_entry g n cap i vb xs ys tv w (by omega) hr hv hvb hy hy1 hx1 hgv).mono ?_
        rintro e w' ⟨rfl, h1, h2⟩
        exact ⟨_, rfl, h1, h2.mono (fun k _ hk => by rw [hk]; rfl), fun k hk => Or.inl hk⟩
      · refine (insGrow_entry g n cap i vb xs ys tv w (by omega) (by omega) hbig hv hvb hy hy1 hx1 hgv).mono ?_
        rintro e w' ⟨c', rfl, h1, h2⟩
        exact ⟨_, rfl, h1, h2.mono (fun k _ hk => by rw [hk]; rfl), fun k hk => Or.inr (by simp only [VB, Value.ownBlock, Option.some.injEq] at hk; omega)⟩
end

/-! slices.Delete: entry. -/
end Go.Proofs.Ythoaangmekkcmaa.Bk
