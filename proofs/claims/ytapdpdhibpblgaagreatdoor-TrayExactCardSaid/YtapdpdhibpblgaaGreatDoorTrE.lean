/- Texts of ours, joined. -/
import Derived.Test.YtapdpdhibpblgaaGreatDoorTrI
import Derived.Shelf.RegionOpenPlain
import Derived.Test.YtapdpdhibpblgaaGreatDoorTrW

-- joined
section
namespace Go.Proofs.YtapdpdhibpblgaaGreatDoor.Tr
open Go.ChangeShapes Go.WideShapes Go.ChangeAt Go.RowKit Go.PlainAid Aid
set_option linter.unusedVariables false
set_option linter.unusedSimpArgs false

/-! slices.Delete: sheet. -/
theorem zero_sheet (w : World) : (zeroValue 98).run Tryz.prog w = .ok (Value.agg #[.int .i64 0, .int .i64 0, .int .i64 0, .int .i64 0, .bool false, .string ⟨#[]⟩, .int .i64 0, .slice none 0 0]) w := by
  obtain ⟨i0, hi0, hzz⟩ := Option.map_eq_some_iff.1 info_sheet
  simp only [Prod.mk.injEq] at hzz
  simp [zeroValue, typeInfo, hi0, hzz.1]
set_option maxHeartbeats 4000000 in
set_option maxRecDepth 100000 in
theorem del_sheet (g n cap i : Nat) (xs : List Value) (w : World) (hi : i < n) (hv : Vec w 98 8 (.slice (some ⟨g, 0, none⟩) n cap) n xs) (hx1 : ∀ v ∈ xs, v.oneCell' = true) :
    Calls Tryz.prog 42 #[.slice (some ⟨g, 0, none⟩) n cap, .int .i64 i, .int .i64 ((i : Int) + 1)] w fun e w' =>
      e = .returned (.slice (some ⟨g, 0, none⟩) (n - 1) cap) ∧ Vec w' 98 8 (.slice (some ⟨g, 0, none⟩) (n - 1) cap) (n - 1) (xs.take (i * 8) ++ xs.drop ((i + 1) * 8)) ∧ Chg (· = g) w w' := by
  obtain ⟨cur, hg, hnc, hcm, hcl, hct, hxl⟩ := hv.opened
  unfold maxLen at hcm
  obtain ⟨i0, hi0, hzz⟩ := Option.map_eq_some_iff.1 info_sheet
  simp only [Prod.mk.injEq] at hzz
  obtain ⟨hz0, hzs, hzb⟩ := hzz
  have e1 : (i + 1) * 8 = i * 8 + 8 := by omega
  rw [e1]
  have hxn : (xs.drop (i * 8 + 8)).length = (n - (i + 1)) * 8 := by rw [List.length_drop, hxl]; omega
  have hsrc : ∀ (W : World) (ad : Addr) (c : Nat), W.heap = w.heap → (n = i + 1 ∨ ad = ⟨g, i * 8 + 8, none⟩) → Src Tryz.prog i0.size 95 (.slice (some ad) (n - (i + 1)) c) (n - (i + 1)) (xs.drop (i * 8 + 8)) W := fun W ad c hW hA => Src.ofSlice W Tryz.underlying95 ad _ c _ (by rw [hxn, hzs]) (fun j u hj => by
    rcases hA with hA | rfl
    · rw [List.drop_eq_nil_of_le (by omega)] at hj; cases hj
    · rw [Addr.add_lit]
      have h0 := hv.cell (j := i * 8 + 8 + j) (by rwa [List.getElem?_drop] at hj)
      rw [← h0]; simp [World.cell?, hW]) (fun v h => hx1 v (List.mem_of_mem_drop h))
  have hap : ∀ (W : World) (ad : Addr) (ty : TypeId) (c : Nat), W.heap = w.heap → (n = i + 1 ∨ ad = ⟨g, i * 8 + 8, none⟩) → (Builtin.append_ #[95, 95] ty #[.slice (some ⟨g, 0, none⟩) i cap, .slice (some ad) (n - (i + 1)) c]).run Tryz.prog W =
      .ok (.slice (some ⟨g, 0, none⟩) (n - 1) cap) (W.setRow g (lay cur (i * 8) (xs.drop (i * 8 + 8))).toArray) := fun W ad ty c hW hA => by
    have h := append_rows (P := Tryz.prog) W 95 95 ty 98 i0 Tryz.underlying95 hi0 g i cap cur _ (by rw [hW]; exact hg) (.slice (some ad) (n - (i + 1)) c) (n - (i + 1)) _ (hsrc W ad c hW hA) (by omega) (by rw [hzs, hxn, hcl]; omega)
    rw [hzs, show i + (n - (i + 1)) = n - 1 by omega] at h
    exact h
  have hl1 : (lay cur (i * 8) (xs.drop (i * 8 + 8))).length = cur.length := lay_len _ _ _ (by rw [hxn, hcl]; omega)
  have hzc : (Value.agg #[.int .i64 0, .int .i64 0, .int .i64 0, .int .i64 0, .bool false, .string ⟨#[]⟩, .int .i64 0, .slice none 0 0]).cells.size = 8 := by kernel_rfl
  have hzl : (Builtin.zeroCells (Value.agg #[.int .i64 0, .int .i64 0, .int .i64 0, .int .i64 0, .bool false, .string ⟨#[]⟩, .int .i64 0, .slice none 0 0]).cells 1).toList.length = 8 := by simp [size_zeroCells, hzc]
  have hcr : ∀ (W : World) (ty : TypeId) (c : Nat), W.heap[g]? = some (.cells (lay cur (i * 8) (xs.drop (i * 8 + 8))).toArray 98 (0, 0)) → (Builtin.clear_ #[95] ty #[.slice (some ⟨g, (n - 1) * 8, none⟩) 1 c]).run Tryz.prog W =
      .ok (.tuple #[]) (W.setRow g (lay (lay cur (i * 8) (xs.drop (i * 8 + 8))) ((n - 1) * 8) (Builtin.zeroCells (Value.agg #[.int .i64 0, .int .i64 0, .int .i64 0, .int .i64 0, .bool false, .string ⟨#[]⟩, .int .i64 0, .slice none 0 0]).cells 1).toList).toArray) := fun W ty c hW =>
    run_clear_rows W 95 98 ty (Value.agg #[.int .i64 0, .int .i64 0, .int .i64 0, .int .i64 0, .bool false, .string ⟨#[]⟩, .int .i64 0, .slice none 0 0]) Tryz.underlying95 zero_sheet (by decide +kernel) g ((n - 1) * 8) 1 c (by decide) _ _ hW (by rw [hl1, hcl, hzc]; omega)
  have hlast := lay_out cur xs (Builtin.zeroCells (Value.agg #[.int .i64 0, .int .i64 0, .int .i64 0, .int .i64 0, .bool false, .string ⟨#[]⟩, .int .i64 0, .slice none 0 0]).cells 1).toList (i * 8) 8 (n * 8) hct hxl (by omega) hzl (by rw [hcl]; omega)
  rw [show n * 8 - 8 = (n - 1) * 8 by omega] at hlast
  have hl2 : (lay (lay cur (i * 8) (xs.drop (i * 8 + 8))) ((n - 1) * 8) (Builtin.zeroCells (Value.agg #[.int .i64 0, .int .i64 0, .int .i64 0, .int .i64 0, .bool false, .string ⟨#[]⟩, .int .i64 0, .slice none 0 0]).cells 1).toList).length = cap * 8 := by rw [lay_len _ _ _ (by rw [hl1, hcl, hzl]; omega), hl1, hcl]
  have HL := Lib.hid hlast
  have HL2 := Lib.hid hl2
  have HG := Lib.hid hg
  clear hlast hl1 hcl hv hct hxl hxn hx1 hsrc hl2 hg hi0 hz0 hzs hzb hzl hzc
  generalize HLC : lay cur (i * 8) (xs.drop (i * 8 + 8)) = C1 at *
  generalize HLD : lay C1 ((n - 1) * 8) (Builtin.zeroCells (Value.agg #[.int .i64 0, .int .i64 0, .int .i64 0, .int .i64 0, .bool false, .string ⟨#[]⟩, .int .i64 0, .slice none 0 0]).cells 1).toList = C2 at *
  have mixed : Tryz.prog.follows Departure.mixedOrders = true := by kernel_rfl
  have u1 := run_underlying (P := Tryz.prog) Tryz.underlying95
  have hb0 : (i : Int) ≤ (i : Int) + 1 := by omega
  have hb1 : (0 : Int) ≤ (i : Int) + 1 := by omega
  have htn : ((i : Int) + 1).toNat = i + 1 := by omega
  have hb4 : ¬ (cap = i) := by omega
  have hb5 : (i : Int) + 1 ≤ (n : Int) := by omega
  have hb6 : i ≤ n := by omega
  have hb7 : ¬ ((i : Int) = (i : Int) + 1) := by omega
  have hb8 : (i : Int) ≤ (cap : Int) := by omega
  have hb9 : i + 1 ≤ n := by omega
  have hbx : ((i : Int) == (i : Int) + 1) = false := by simpa using hb7
  have hn1 : n - 1 ≤ n := by omega
  have hn2 : (((n - 1 : Nat) : Int)) ≤ (n : Int) := by omega
  have hn3 : n ≤ cap := hnc
  have hn4 : n - (n - 1) = 1 := by omega
  have hn5 : ¬ (cap = n - 1) := by omega
  by_cases hci : cap = i + 1
  · have hni : n = i + 1 := by omega
    have hT := hap w.drew ⟨g, 0, none⟩ 95 0 rfl (Or.inl hni)
    subst hci
    subst hni
    rw [Nat.sub_self, Nat.add_sub_cancel] at hT
    rw [Nat.add_sub_cancel] at hcr HLD HL ⊢
    clear hap hb7 hbx htn hn1 hn2 hn3 hn4 hn5 hb5 hb6 hb8 hb9 hb4
    have hc7 : ¬ ((i : Int) = (i : Int) + 1) := by omega
    have hcx : ((i : Int) == (i : Int) + 1) = false := by simpa using hc7
    have hc5 : ¬ (i + 1 = i) := by omega
    go_enter Tryz.func42, Tryz.ntmps42
    go_wp2_with fail
    go_region_law_o (refine step_known rfl .append Builtin.append_ (fun _ _ _ _ => rfl) _ #[95, 95] rfl #[.slice (some ⟨g, 0, none⟩) i (i + 1), .slice (some ⟨g, 0, none⟩) 0 0] (by simp [Act.eval, Act.put]) hT ?_)
    have HG1 : Hid ((w.drew.setRow g C1.toArray).heap[g]? = some (.cells C1.toArray 98 (0, 0))) := Lib.hid (setRow_heap w.drew g _ _ _ _ HG.out)
    have HC1 : Hid (Chg (· = g) w (w.drew.setRow g C1.toArray)) := Lib.hid ((Chg.refl (· = g) w).drew.trans (chg_setRow w.drew g _) (fun _ _ h => h))
    have hT2 := hcr _ 0 1 HG1.out
    clear hT hcr
    generalize w.drew.setRow g C1.toArray = W1 at *
    go_wp2_with (at_builtin; refine list_known rfl .clear Builtin.clear_ (fun _ _ _ _ => rfl) _ #[95] rfl #[.slice (some ⟨g, i * 8, none⟩) 1 1] (by simp [Act.eval, Act.put]) hT2 ?_)
    go_returns
    exact ⟨rfl, Vec.built C2 (setRow_heap _ g _ _ _ _ HG1.out) (by omega) (by unfold maxLen; omega) HL2.out HL.out, HC1.out.trans (chg_setRow _ g _) (fun _ _ h => h)⟩
  · have hT := hap w.drew ⟨g, i * 8 + 8, none⟩ 95 (cap - (i + 1)) rfl (Or.inr rfl)
    clear hap
    go_enter Tryz.func42, Tryz.ntmps42
    go_wp2_with fail
    go_region_law_o (refine step_known rfl .append Builtin.append_ (fun _ _ _ _ => rfl) _ #[95, 95] rfl #[.slice (some ⟨g, 0, none⟩) i cap, .slice (some ⟨g, i * 8 + 8, none⟩) (n - (i + 1)) (cap - (i + 1))] (by simp [Act.eval, Act.put, hci]) hT ?_)
    have HG1 : Hid ((w.drew.setRow g C1.toArray).heap[g]? = some (.cells C1.toArray 98 (0, 0))) := Lib.hid (setRow_heap w.drew g _ _ _ _ HG.out)
    have HC1 : Hid (Chg (· = g) w (w.drew.setRow g C1.toArray)) := Lib.hid ((Chg.refl (· = g) w).drew.trans (chg_setRow w.drew g _) (fun _ _ h => h))
    have hT2 := hcr _ 0 (cap - (n - 1)) HG1.out
    clear hT hcr
    generalize w.drew.setRow g C1.toArray = W1 at *
    go_wp2_with (at_builtin; refine list_known rfl .clear Builtin.clear_ (fun _ _ _ _ => rfl) _ #[95] rfl #[.slice (some ⟨g, (n - 1) * 8, none⟩) 1 (cap - (n - 1))] (by simp [Act.eval, Act.put]) hT2 ?_)
    go_returns
    exact ⟨rfl, Vec.built C2 (setRow_heap _ g _ _ _ _ HG1.out) (by omega) (by unfold maxLen; omega) HL2.out HL.out, HC1.out.trans (chg_setRow _ g _) (fun _ _ h => h)⟩
end Go.Proofs.YtapdpdhibpblgaaGreatDoor.Tr
end

-- joined
section
namespace Go.Proofs.YtapdpdhibpblgaaGreatDoor.Tr
open Go.ChangeShapes Go.WideShapes Go.ChangeAt Go.RowKit Go.PlainAid Aid Nt Nd Cr
set_option linter.unusedVariables false
set_option linter.unusedSimpArgs false
section
variable (n g gd gl : Nat) (hn : n ≤ 256) (hv ov : Value) (h : Nat → Option Sh) (hh : OkS h) (d : Nat → Option Db)
include hn hh
set_option maxRecDepth 100000 in
set_option maxHeartbeats 2000000 in
/-- A page that isn't at hand. -/
theorem evict_no (x : Int) (hx : x < 0 ∨ (n : Int) ≤ x ∨ ∃ p : Nat, x = p ∧ p < n ∧ h p = none) (w0 w : World) (C : Asn) (hS : Own w0 No w (aTr g gd gl hv ov (lst h n) (lst d n) * C)) :
    Calls Tryz.prog 13 #[tPtr g, .int .i64 x] w fun e w' => e = .returned (.int .i64 1) ∧ Own w0 No w' (aTr g gd gl hv ov (lst h n) (lst d n) * C) := by
  have S := Lib.hid hS
  obtain ⟨AH, cH, rfl⟩ := hS.left.right.vec.slice
  have HP : Hid (∀ w, Vec w 98 8 (.slice AH (lst h n).length cH) (lst h n).length (shs (lst h n)) → Calls Tryz.prog 39 #[.slice AH (lst h n).length cH, .int .i64 x, num_sheet] w fun e w' => ∃ i : Nat, e = .returned (.tuple #[.int .i64 i, .bool false]) ∧ Below w.heap.size w w') := Lib.hid fun w hw => by
    rcases hx with hx | hx | ⟨p, rfl, hp, hnone⟩
    · exact place_no hh hn x (Or.inl hx) _ w hw
    · exact place_no hh hn x (Or.inr hx) _ w hw
    · refine (place_s hh hn p hp _ w hw).mono fun e w' ⟨he, hb⟩ => ⟨(lst h p).length, by rw [he, hnone]; rfl, hb⟩
  obtain ⟨-, -, c2, -⟩ := tr_cells (S.out.has (Has.l (Has.l (has_blk _ _ _))))
  unfold num_sheet tPtr at *
  clear hS hx
  go_enter Tryz.func13, Tryz.ntmps13
  go_wp2_with fail
  refine (HP.out _ S.out.left.right.vec).mono ?_
  rintro e w2 ⟨i, rfl, hX⟩
  have S2 := Lib.hid (S.out.below hX)
  clear hX S HP c2
  go_wp2_with fail
  go_returns
  exact ⟨rfl, S2.out⟩
set_option maxRecDepth 100000 in
set_option maxHeartbeats 4000000 in
/-- One that is, and is written or needn't be. -/
theorem evict_yes (p : Nat) (hp : p < n) (nd : Nod) (v : Value) (hs : h p = some ⟨p, nd, v⟩) (d' : Nat → Option Db) (w0 : World) (R R' : Asn)
    (HW : ∀ w, Own w0 No w (aTr g gd gl hv ov (lst h n) (lst d n) * R) → Calls Tryz.prog 41 #[tPtr g, .agg (shV p nd v)] w fun e w' => e = .returned (.int .i64 0) ∧ Own w0 No w' (aTr g gd gl hv ov (lst h n) (lst d' n) * R'))
    (w : World) (hS : Own w0 No w (aTr g gd gl hv ov (lst h n) (lst d n) * R)) :
    Calls Tryz.prog 13 #[tPtr g, .int .i64 p] w fun e w' => ∃ hv', e = .returned (.int .i64 0) ∧ Own w0 No w' (aTr g gd gl hv' ov (lst (put h p none) n) (lst d' n) * R') := by
  have S := Lib.hid hS
  have hvs : ∀ x, x ∈ lst h n → ∃ A m c, x.v = .slice A m c := fun x hx => by
    obtain ⟨A, c, e⟩ := (ns_at (show Own w0 No w (aNs (lst h n) * R) from by
      have := hS
      rw [tr_b] at this
      exact this.right.right.right) hx).slice
    exact ⟨A, _, c, e⟩
  have hmem : (⟨p, nd, v⟩ : Sh) ∈ lst h n := List.mem_of_getElem? (lst_get h p n hp _ hs)
  obtain ⟨A0, m0, c0, hv0⟩ := hvs _ hmem
  dsimp only at hv0
  subst hv0
  have hlt : (lst h p).length < (lst h n).length := lst_lt h p n hp _ hs
  obtain ⟨b, cH, rfl⟩ : ∃ b c, hv = .slice (some ⟨b, 0, none⟩) (lst h n).length c := by
    rcases hS.left.right.vec.forms with ⟨-, hz⟩ | ⟨g, cap, he, -⟩
    · omega
    · exact ⟨_, _, he⟩
  have HP := Lib.hid (fun w hw => place_s hh hn p hp (.slice (some ⟨b, 0, none⟩) (lst h n).length cH) w hw)
  simp only [hs, Option.isSome_some] at HP
  have HWW := Lib.hid HW
  have HD := Lib.hid (fun w hw => del_sheet b (lst h n).length cH (lst h p).length (shs (lst h n)) w hlt hw (shs_one _ hvs))
  have hget := fun (j : Nat) (hj : j < 8) => (show (shs (lst h n))[(lst h p).length * 8 + j]? = (shC ⟨p, nd, .slice A0 m0 c0⟩)[j]? from shs_at _ _ _ (lst_get h p n hp _ hs) j hj)
  have HG := Lib.hid hget
  have HC : Hid ((shs (lst h n)).take ((lst h p).length * 8) ++ (shs (lst h n)).drop (((lst h p).length + 1) * 8) = shs (lst (put h p none) n)) := Lib.hid (by
    rw [put_none hp, lst_some hp hs]
    exact shs_cut _ _ _)
  have HL : Hid ((lst h n).length - 1 = (lst (put h p none) n).length) := Lib.hid (by
    rw [put_none hp, lst_some hp hs, List.length_append, List.length_append, List.length_cons]; omega)
  have HN : Hid (∀ y, y ∈ lst (put h p none) n → y ∈ lst h n) := Lib.hid (by
    rw [put_none hp, lst_some hp hs]
    intro y hy
    simp only [List.mem_append, List.mem_cons] at hy ⊢
    rcases hy with hy | hy
    · exact Or.inl hy
    · exact Or.inr (Or.inr hy))
  obtain ⟨-, -, c2, -⟩ := tr_cells (S.out.has (Has.l (Has.l (has_blk _ _ _))))
  have hw1 : IntKind.i64.wrap (((lst h p).length : Int) + 1) = ((lst h p).length : Int) + 1 := by rw [IntKind.wrap_i64]; have := lst_le h n; omega
  unfold num_sheet tPtr shV at *
  clear hS HW hget hmem hvs hs
  go_enter Tryz.func13, Tryz.ntmps13
  go_wp2_with fail
  refine (HP.out _ S.out.left.right.vec).mono ?_
  rintro e w2 ⟨rfl, hX⟩
  have S2 := Lib.hid (S.out.below hX)
  clear hX S HP c2
  obtain ⟨-, -, c2, -⟩ := tr_cells (S2.out.has (Has.l (Has.l (has_blk _ _ _))))
  have hv' := S2.out.left.right.vec
  have q0 : w2.cell? ⟨b, (lst h p).length * 8, none⟩ = some (.int .i64 p) := hv'.cell (j := (lst h p).length * 8 + 0) (HG.out 0 (by decide))
  have q1 := hv'.cell (HG.out 1 (by decide))
  have q2 := hv'.cell (HG.out 2 (by decide))
  have q3 := hv'.cell (HG.out 3 (by decide))
  have q4 := hv'.cell (HG.out 4 (by decide))
  have q5 := hv'.cell (HG.out 5 (by decide))
  have q6 := hv'.cell (HG.out 6 (by decide))
  have q7 := hv'.cell (HG.out 7 (by decide))
  clear hv' HG
  go_wp2_with fail
  refine (HWW.out _ S2.out).mono ?_
  rintro e w3 ⟨rfl, hX⟩
  clear S2 HWW q0 q1 q2 q3 q4 q5 q6 q7 c2
  rw [tr_s] at hX
  have S3 := Lib.hid hX
  clear hX
  obtain ⟨-, -, c2, -⟩ := tr_cells (S3.out.has (Has.r (Has.l (has_blk _ _ _))))
  go_wp2_with fail
  refine (HD.out _ S3.out.vec).mono ?_
  rintro e w4 ⟨rfl, h1, h2⟩
  have S4 := Lib.hid (S3.out.app h1 (h2.mono (fun k _ hk => by rw [hk]; rfl)) (fun k hk => Or.inl hk))
  clear h1 h2 S3 HD c2
  obtain ⟨-, -, c2, -, f2, -⟩ := tr_cells (S4.out.has (Has.r (Has.l (has_blk _ _ _))))
  go_wp2_with fail
  go_returns
  refine ⟨.slice (some ⟨b, 0, none⟩) (lst (put h p none) n).length cH, rfl, ?_⟩
  have S5 := (S4.out.set (Sets.r (Sets.l (sets_blk g 109 _ 2 (.slice (some ⟨b, 0, none⟩) ((lst h n).length - 1) cH))))).imp (Imp.r (Imp.r (Imp.r (Imp.l (ns_sub _ _ HN.out)))))
  rw [HC.out] at S5
  rw [tr_s, ← HL.out]
  exact S5
end
end Go.Proofs.YtapdpdhibpblgaaGreatDoor.Tr
end
