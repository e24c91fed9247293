/- Texts of ours, joined. -/
import Derived.Test.YtapdpdhibpblgaaGreatDoorRow
import Derived.Test.YtapdpdhibpblgaaGreatDoorDyB

-- joined
section
namespace Go.Proofs.YtapdpdhibpblgaaGreatDoor.Tr
open Go.ChangeShapes Go.WideShapes Go.ChangeAt Go.RowKit Go.PlainAid Aid Nt Nd
set_option linter.unusedVariables false
set_option linter.unusedSimpArgs false

/-! sheet -/
theorem shs_at (H : List Sh) (k : Nat) (x : Sh) (h : H[k]? = some x) (j : Nat) (hj : j < 8) : (shs H)[k * 8 + j]? = (shC x)[j]? := flatMap_at shC 8 (fun _ => rfl) H k j x h hj
def num_sheet : Value := .func (.func 40) #[] #[]
def by_sheet (gb : Nat) : Value := .func (.func 75) #[] #[.pointer (some ⟨gb, 0, none⟩)]
set_option maxHeartbeats 400000 in
theorem number_sheet (a : Int) (u1 u2 u3 u4 u5 u6 u7 : Value) (w : World) :
    Calls Tryz.prog 40 #[.agg #[.int .i64 a, u1, u2, u3, u4, u5, u6, u7]] w fun e w' => e = .returned (.int .i64 a) ∧ Below w.heap.size w w' := by
  have B0 : Hid (Below w.heap.size w (w.alloc (.cells #[.int .i64 a, u1, u2, u3, u4, u5, u6, u7] 98))) := Lib.hid (blA (Below.refl _ _) _)
  go_enter Tryz.func40, Tryz.ntmps40
  go_wp2_with fail
  go_returns
  exact ⟨rfl, B0.out⟩
set_option maxHeartbeats 1000000 in
theorem by_sheet_any (gb : Nat) (a x : Int) (u1 u2 u3 u4 u5 u6 u7 : Value) (w : World) (hc : w.cell? ⟨gb, 0, none⟩ = some num_sheet) (hl : gb < w.heap.size) :
    Calls Tryz.prog 75 #[.agg #[.int .i64 a, u1, u2, u3, u4, u5, u6, u7], .int .i64 x, .pointer (some ⟨gb, 0, none⟩)] w fun e w' => e = .returned (.int .i64 (cmpI a x)) ∧ Below w.heap.size w w' := by
  have HC := Lib.hid (fun w => compare_any a x w)
  have HN := Lib.hid (fun w => number_sheet a u1 u2 u3 u4 u5 u6 u7 w)
  have B0 : Hid (Below w.heap.size w (w.alloc (.cells #[.int .i64 a, u1, u2, u3, u4, u5, u6, u7] 98))) := Lib.hid (blA (Below.refl _ _) _)
  have c1 := (bcell B0.out).1 _ 0 hl
  rw [hc] at c1
  unfold num_sheet at c1
  clear hc
  go_enter Tryz.func75, Tryz.ntmps75
  go_wp2_with fail
  refine (HN.out _).mono ?_
  rintro e w2 ⟨rfl, hb⟩
  have B2 := Lib.hid (bl B0.out hb)
  clear hb 
  go_wp2_with fail
  refine (HC.out _).mono ?_
  rintro e w' ⟨rfl, rfl⟩
  go_wp2_with fail
  go_returns
  exact ⟨rfl, B2.out⟩
set_option maxRecDepth 100000 in
set_option maxHeartbeats 2000000 in
theorem search_sheet (A : Option Addr) (c gb : Nat) (H : List Sh) (x : Int) (i : Nat) (w : World) (hv : Vec w 98 8 (.slice A H.length c) H.length (shs H)) (hn : H.length ≤ 262144)
    (hc : w.cell? ⟨gb, 0, none⟩ = some num_sheet) (hl : gb < w.heap.size) (hi : i ≤ H.length) (hlo : ∀ k, k < i → (pgS H k : Int) < x) (hhi : ∀ k, i ≤ k → k < H.length → x ≤ pgS H k) :
    Calls Tryz.prog 74 #[.slice A H.length c, .int .i64 x, by_sheet gb] w fun e w' =>
      e = .returned (.tuple #[.int .i64 i, .bool (decide (i < H.length ∧ (pgS H i : Int) = x))]) ∧ Below w.heap.size w w' := by
  have HV := Lib.hid hv
  have HLO := Lib.hid hlo
  have HHI := Lib.hid hhi
  have HCC := Lib.hid hc
  have HB := Lib.hid (fun (a : Int) u1 u2 u3 u4 u5 u6 u7 w hc hl => by_sheet_any gb a x u1 u2 u3 u4 u5 u6 u7 w hc hl)
  have B0 : Hid (Below w.heap.size w w) := Lib.hid (Below.refl _ _)
  clear hv hlo hhi hc
  unfold by_sheet at *
  go_enter Tryz.func74, Tryz.ntmps74
  go_wp2_with fail
  go_loopw [9, 10, 11] (fun p q _ wr => ∃ lo hi : Nat, p = .int .i64 lo ∧ q = .int .i64 hi ∧ lo ≤ i ∧ i ≤ hi ∧ hi ≤ H.length ∧ Hid (Below w.heap.size w wr)) (fun p q _ _ => (intOf q).toNat - (intOf p).toNat)
  case atStart => exact ⟨0, H.length, rfl, rfl, Nat.zero_le _, hi, Nat.le_refl _, B0⟩
  case round =>
    clear B0
    obtain ⟨lo, hi', rfl, rfl, h1, h2, h3, hB⟩ := hrel
    have hgb : gb < wr.heap.size := Nat.lt_of_lt_of_le hl hB.out.size
    have hcb := Lib.hid ((hB.out.cell (p := ⟨gb, 0, none⟩) hl).trans HCC.out)
    by_cases hlt : lo < hi'
    · obtain ⟨b, rfl⟩ : ∃ b, A = some ⟨b, 0, none⟩ := by
        rcases HV.out.forms with ⟨-, hz⟩ | ⟨g, cap, he, -⟩
        · omega
        · cases he; exact ⟨_, rfl⟩
      have hw1 : IntKind.u64.wrap ((lo : Int) + hi') = (lo : Int) + hi' := by rw [IntKind.wrap_u64]; omega
      have hw2 : IntKind.i64.wrap ((lo : Int) + hi') = (lo : Int) + hi' := by rw [IntKind.wrap_i64]; omega
      go_upto_region 5 with fail
      obtain ⟨md, hmd⟩ : ∃ md : Nat, ((lo : Int) + hi') / 2 = md := ⟨(lo + hi') / 2, by omega⟩
      have hm1 : lo ≤ md := by omega
      have hm2 : md < hi' := by omega
      obtain ⟨x', hx⟩ : ∃ r, H[md]? = some r := ⟨H[md]'(by omega), List.getElem?_eq_getElem _⟩
      have HW := HV.out.keepB hB.out
      have d0 : wr.cell? ⟨b, md * 8, none⟩ = some (.int .i64 x'.page) := HW.cell (j := md * 8 + 0) (u := .int .i64 x'.page) (by rw [shs_at H md x' hx 0 (by decide)]; rfl)
      have d1 := HW.cell (j := md * 8 + 1) (u := .int .i64 x'.n.tree) (by rw [shs_at H md x' hx 1 (by decide)]; rfl)
      have d2 := HW.cell (j := md * 8 + 2) (u := .int .i64 x'.n.level) (by rw [shs_at H md x' hx 2 (by decide)]; rfl)
      have d3 := HW.cell (j := md * 8 + 3) (u := .int .i64 x'.n.stamp) (by rw [shs_at H md x' hx 3 (by decide)]; rfl)
      have d4 := HW.cell (j := md * 8 + 4) (u := .bool x'.n.has) (by rw [shs_at H md x' hx 4 (by decide)]; rfl)
      have d5 := HW.cell (j := md * 8 + 5) (u := .string (ofL x'.n.high)) (by rw [shs_at H md x' hx 5 (by decide)]; rfl)
      have d6 := HW.cell (j := md * 8 + 6) (u := .int .i64 x'.n.right) (by rw [shs_at H md x' hx 6 (by decide)]; rfl)
      have d7 := HW.cell (j := md * 8 + 7) (u := x'.v) (by rw [shs_at H md x' hx 7 (by decide)]; rfl)
      have hpg := pgS_at hx
      have hml : md < H.length := by omega
      have hsplit : (md < i ∧ (x'.page : Int) < x) ∨ (i ≤ md ∧ ¬ (x'.page : Int) < x) := by
        rw [← hpg]
        rcases Nat.lt_or_ge md i with h | h
        · exact Or.inl ⟨h, HLO.out md h⟩
        · exact Or.inr ⟨h, by have := HHI.out md h (by omega); omega⟩
      clear HW hx hw1 hw2 hpg
      rw [hmd]
      clear hmd
      generalize x'.n.tree = z0 at *
      generalize x'.n.level = z1 at *
      generalize x'.n.stamp = z2 at *
      generalize x'.n.has = z3 at *
      generalize ofL x'.n.high = z4 at *
      generalize x'.n.right = z5 at *
      generalize x'.v = z6 at *
      obtain ⟨a, ha⟩ : ∃ a : Int, a = (x'.page : Int) := ⟨_, rfl⟩
      rw [← ha] at d0 hsplit
      clear ha
      go_wp2_with fail
      refine (HB.out _ _ _ _ _ _ _ _ _ hcb.out hgb).mono ?_
      rintro e w2 ⟨rfl, hX⟩
      have B1 := Lib.hid (bl hB.out hX)
      clear hB hX hcb d0 d1 d2 d3 d4 d5 d6 d7
      rcases hsplit with ⟨h4, h5⟩ | ⟨h4, h5⟩
      · have hc : cmpI a x = -1 := if_pos h5
        rw [hc]
        go_wp2_with fail
        go_roundw
        case rel => exact ⟨md + 1, hi', by go_num, rfl, by omega, h2, h3, B1⟩
        case measure => simp [intOf]; omega
      · have hc : ¬ cmpI a x < 0 := by unfold cmpI; split <;> (try split) <;> omega
        have hcb : decide (cmpI a x < 0) = false := by simpa using hc
        generalize cmpI a x = u at *
        go_wp2_with fail
        go_roundw
        case rel => exact ⟨lo, md, rfl, rfl, h1, h4, by omega, B1⟩
        case measure => simp [intOf]; omega
    · obtain rfl : lo = i := by omega
      obtain rfl : hi' = lo := by omega
      by_cases hin : hi' < H.length
      · obtain ⟨b, rfl⟩ : ∃ b, A = some ⟨b, 0, none⟩ := by
          rcases HV.out.forms with ⟨-, hz⟩ | ⟨g, cap, he, -⟩
          · omega
          · cases he; exact ⟨_, rfl⟩
        obtain ⟨x', hx⟩ : ∃ r, H[hi']? = some r := ⟨H[hi']'(by omega), List.getElem?_eq_getElem _⟩
        have HW := HV.out.keepB hB.out
        have d0 : wr.cell? ⟨b, hi' * 8, none⟩ = some (.int .i64 x'.page) := HW.cell (j := hi' * 8 + 0) (u := .int .i64 x'.page) (by rw [shs_at H hi' x' hx 0 (by decide)]; rfl)
        have d1 := HW.cell (j := hi' * 8 + 1) (u := .int .i64 x'.n.tree) (by rw [shs_at H hi' x' hx 1 (by decide)]; rfl)
        have d2 := HW.cell (j := hi' * 8 + 2) (u := .int .i64 x'.n.level) (by rw [shs_at H hi' x' hx 2 (by decide)]; rfl)
        have d3 := HW.cell (j := hi' * 8 + 3) (u := .int .i64 x'.n.stamp) (by rw [shs_at H hi' x' hx 3 (by decide)]; rfl)
        have d4 := HW.cell (j := hi' * 8 + 4) (u := .bool x'.n.has) (by rw [shs_at H hi' x' hx 4 (by decide)]; rfl)
        have d5 := HW.cell (j := hi' * 8 + 5) (u := .string (ofL x'.n.high)) (by rw [shs_at H hi' x' hx 5 (by decide)]; rfl)
        have d6 := HW.cell (j := hi' * 8 + 6) (u := .int .i64 x'.n.right) (by rw [shs_at H hi' x' hx 6 (by decide)]; rfl)
        have d7 := HW.cell (j := hi' * 8 + 7) (u := x'.v) (by rw [shs_at H hi' x' hx 7 (by decide)]; rfl)
        have hpg := pgS_at hx
        have hge := HHI.out hi' (Nat.le_refl _) hin
        rw [hpg] at hge
        have HA := Lib.hid hpg
        clear HW hx hpg
        generalize x'.n.tree = z0 at *
        generalize x'.n.level = z1 at *
        generalize x'.n.stamp = z2 at *
        generalize x'.n.has = z3 at *
        generalize ofL x'.n.high = z4 at *
        generalize x'.n.right = z5 at *
        generalize x'.v = z6 at *
        obtain ⟨a, ha⟩ : ∃ a : Int, a = (x'.page : Int) := ⟨_, rfl⟩
        rw [← ha] at d0 hge
        have HPA := Lib.hid (show ((pgS H hi' : Nat) : Int) = a by rw [HA.out, ha])
        clear ha HA
        have hcq : (cmpI a x = 0) ↔ (a = x) := by unfold cmpI; split <;> (try split) <;> omega
        have HCQ := Lib.hid hcq
        clear hcq
        go_wp2_with fail
        refine (HB.out _ _ _ _ _ _ _ _ _ hcb.out hgb).mono ?_
        rintro e w2 ⟨rfl, hX⟩
        have B1 := Lib.hid (bl hB.out hX)
        clear hB hX hcb d0 d1 d2 d3 d4 d5 d6 d7
        go_wp2_with fail
        go_returns
        refine ⟨?_, B1.out⟩
        rw [HPA.out]
        have : (cmpI a x == 0) = decide (hi' < H.length ∧ a = x) := by
          rw [Bool.eq_iff_iff]
          simp only [beq_iff_eq, decide_eq_true_eq, HCQ.out]
          exact ⟨fun h => ⟨hin, h⟩, fun h => h.2⟩
        rw [← this]
        rfl
      · go_wp2_with fail
        go_returns
        exact ⟨by simp [hin], hB.out⟩
set_option maxHeartbeats 1000000 in
theorem place_sheet (v : Value) (H : List Sh) (x : Int) (w : World) (hv : Vec w 98 8 v H.length (shs H)) (hn : H.length ≤ 262144) (hr : Rise (H.map Sh.page)) :
    Calls Tryz.prog 39 #[v, .int .i64 x, num_sheet] w fun e w' =>
      e = .returned (.tuple #[.int .i64 ((spot (H.map Sh.page) x : Nat) : Int), .bool (decide (spot (H.map Sh.page) x < H.length ∧ (pgS H (spot (H.map Sh.page) x) : Int) = x))]) ∧ Below w.heap.size w w' := by
  obtain ⟨A, c, rfl⟩ := hv.slice
  have hb : Hid (Below w.heap.size w (w.alloc (.cells #[num_sheet] 110))) := Lib.hid (blA (Below.refl _ _) _)
  have hlen : (H.map Sh.page).length = H.length := List.length_map _
  have HX := Lib.hid (search_sheet A c w.heap.size H x (spot (H.map Sh.page) x) _ (hv.keepB hb.out) hn ((Blk.new w #[num_sheet] 110).cell 0) (by simp) (by rw [← hlen]; exact spot_le _ _) (fun k hk => spot_lo _ x k hk) (fun k h1 h2 => spot_hi _ hr x k h1 (by rw [hlen]; exact h2)))
  have hmf : ∀ (fn : Fn) (first cap : Array Value) (w : World), (Instr.makeFunc fn first cap).run Tryz.prog w = .ok (.func fn first cap) w := fun _ _ _ _ => rfl
  unfold num_sheet by_sheet at *
  generalize spot (H.map Sh.page) x = i at *
  generalize decide (i < H.length ∧ (pgS H i : Int) = x) = fd at *
  clear hv
  go_enter Tryz.func39, Tryz.ntmps39
  go_wp2_with fail
  refine HX.out.mono ?_
  rintro e w2 ⟨rfl, hb2⟩
  have B2 := Lib.hid (bl hb.out hb2)
  clear hb hb2 HX
  go_wp2_with fail
  go_returns
  exact ⟨rfl, B2.out⟩

/-! debt -/
theorem dbs_at (H : List Db) (k : Nat) (x : Db) (h : H[k]? = some x) (j : Nat) (hj : j < 3) : (dbs H)[k * 3 + j]? = (dbC x)[j]? := flatMap_at dbC 3 (fun _ => rfl) H k j x h hj
def num_debt : Value := .func (.func 78) #[] #[]
def by_debt (gb : Nat) : Value := .func (.func 119) #[] #[.pointer (some ⟨gb, 0, none⟩)]
set_option maxHeartbeats 400000 in
theorem number_debt (a : Int) (u1 u2 : Value) (w : World) :
    Calls Tryz.prog 78 #[.agg #[.int .i64 a, u1, u2]] w fun e w' => e = .returned (.int .i64 a) ∧ Below w.heap.size w w' := by
  have B0 : Hid (Below w.heap.size w (w.alloc (.cells #[.int .i64 a, u1, u2] 114))) := Lib.hid (blA (Below.refl _ _) _)
  go_enter Tryz.func78, Tryz.ntmps78
  go_wp2_with fail
  go_returns
  exact ⟨rfl, B0.out⟩
set_option maxHeartbeats 1000000 in
theorem by_debt_any (gb : Nat) (a x : Int) (u1 u2 : Value) (w : World) (hc : w.cell? ⟨gb, 0, none⟩ = some num_debt) (hl : gb < w.heap.size) :
    Calls Tryz.prog 119 #[.agg #[.int .i64 a, u1, u2], .int .i64 x, .pointer (some ⟨gb, 0, none⟩)] w fun e w' => e = .returned (.int .i64 (cmpI a x)) ∧ Below w.heap.size w w' := by
  have HC := Lib.hid (fun w => compare_any a x w)
  have HN := Lib.hid (fun w => number_debt a u1 u2 w)
  have B0 : Hid (Below w.heap.size w (w.alloc (.cells #[.int .i64 a, u1, u2] 114))) := Lib.hid (blA (Below.refl _ _) _)
  have c1 := (bcell B0.out).1 _ 0 hl
  rw [hc] at c1
  unfold num_debt at c1
  clear hc
  go_enter Tryz.func119, Tryz.ntmps119
  go_wp2_with fail
  refine (HN.out _).mono ?_
  rintro e w2 ⟨rfl, hb⟩
  have B2 := Lib.hid (bl B0.out hb)
  clear hb 
  go_wp2_with fail
  refine (HC.out _).mono ?_
  rintro e w' ⟨rfl, rfl⟩
  go_wp2_with fail
  go_returns
  exact ⟨rfl, B2.out⟩
set_option maxRecDepth 100000 in
set_option maxHeartbeats 2000000 in
theorem search_debt (A : Option Addr) (c gb : Nat) (H : List Db) (x : Int) (i : Nat) (w : World) (hv : Vec w 114 3 (.slice A H.length c) H.length (dbs H)) (hn : H.length ≤ 262144)
    (hc : w.cell? ⟨gb, 0, none⟩ = some num_debt) (hl : gb < w.heap.size) (hi : i ≤ H.length) (hlo : ∀ k, k < i → (pgD H k : Int) < x) (hhi : ∀ k, i ≤ k → k < H.length → x ≤ pgD H k) :
    Calls Tryz.prog 118 #[.slice A H.length c, .int .i64 x, by_debt gb] w fun e w' =>
      e = .returned (.tuple #[.int .i64 i, .bool (decide (i < H.length ∧ (pgD H i : Int) = x))]) ∧ Below w.heap.size w w' := by
  have HV := Lib.hid hv
  have HLO := Lib.hid hlo
  have HHI := Lib.hid hhi
  have HCC := Lib.hid hc
  have HB := Lib.hid (fun (a : Int) u1 u2 w hc hl => by_debt_any gb a x u1 u2 w hc hl)
  have B0 : Hid (Below w.heap.size w w) := Lib.hid (Below.refl _ _)
  clear hv hlo hhi hc
  unfold by_debt at *
  go_enter Tryz.func118, Tryz.ntmps118
  go_wp2_with fail
  go_loopw [9, 10, 11] (fun p q _ wr => ∃ lo hi : Nat, p = .int .i64 lo ∧ q = .int .i64 hi ∧ lo ≤ i ∧ i ≤ hi ∧ hi ≤ H.length ∧ Hid (Below w.heap.size w wr)) (fun p q _ _ => (intOf q).toNat - (intOf p).toNat)
  case atStart => exact ⟨0, H.length, rfl, rfl, Nat.zero_le _, hi, Nat.le_refl _, B0⟩
  case round =>
    clear B0
    obtain ⟨lo, hi', rfl, rfl, h1, h2, h3, hB⟩ := hrel
    have hgb : gb < wr.heap.size := Nat.lt_of_lt_of_le hl hB.out.size
    have hcb := Lib.hid ((hB.out.cell (p := ⟨gb, 0, none⟩) hl).trans HCC.out)
    by_cases hlt : lo < hi'
    · obtain ⟨b, rfl⟩ : ∃ b, A = some ⟨b, 0, none⟩ := by
        rcases HV.out.forms with ⟨-, hz⟩ | ⟨g, cap, he, -⟩
        · omega
        · cases he; exact ⟨_, rfl⟩
      have hw1 : IntKind.u64.wrap ((lo : Int) + hi') = (lo : Int) + hi' := by rw [IntKind.wrap_u64]; omega
      have hw2 : IntKind.i64.wrap ((lo : Int) + hi') = (lo : Int) + hi' := by rw [IntKind.wrap_i64]; omega
      go_upto_region 5 with fail
      obtain ⟨md, hmd⟩ : ∃ md : Nat, ((lo : Int) + hi') / 2 = md := ⟨(lo + hi') / 2, by omega⟩
      have hm1 : lo ≤ md := by omega
      have hm2 : md < hi' := by omega
      obtain ⟨x', hx⟩ : ∃ r, H[md]? = some r := ⟨H[md]'(by omega), List.getElem?_eq_getElem _⟩
      have HW := HV.out.keepB hB.out
      have d0 : wr.cell? ⟨b, md * 3, none⟩ = some (.int .i64 x'.page) := HW.cell (j := md * 3 + 0) (u := .int .i64 x'.page) (by rw [dbs_at H md x' hx 0 (by decide)]; rfl)
      have d1 := HW.cell (j := md * 3 + 1) (u := .int .i64 x'.first) (by rw [dbs_at H md x' hx 1 (by decide)]; rfl)
      have d2 := HW.cell (j := md * 3 + 2) (u := .int .i64 x'.un) (by rw [dbs_at H md x' hx 2 (by decide)]; rfl)
      have hpg := pgD_at hx
      have hml : md < H.length := by omega
      have hsplit : (md < i ∧ (x'.page : Int) < x) ∨ (i ≤ md ∧ ¬ (x'.page : Int) < x) := by
        rw [← hpg]
        rcases Nat.lt_or_ge md i with h | h
        · exact Or.inl ⟨h, HLO.out md h⟩
        · exact Or.inr ⟨h, by have := HHI.out md h (by omega); omega⟩
      clear HW hx hw1 hw2 hpg
      rw [hmd]
      clear hmd
      generalize x'.first = z0 at *
      generalize x'.un = z1 at *
      obtain ⟨a, ha⟩ : ∃ a : Int, a = (x'.page : Int) := ⟨_, rfl⟩
      rw [← ha] at d0 hsplit
      clear ha
      go_wp2_with fail
      refine (HB.out _ _ _ _ hcb.out hgb).mono ?_
      rintro e w2 ⟨rfl, hX⟩
      have B1 := Lib.hid (bl hB.out hX)
      clear hB hX hcb d0 d1 d2
      rcases hsplit with ⟨h4, h5⟩ | ⟨h4, h5⟩
      · have hc : cmpI a x = -1 := if_pos h5
        rw [hc]
        go_wp2_with fail
        go_roundw
        case rel => exact ⟨md + 1, hi', by go_num, rfl, by omega, h2, h3, B1⟩
        case measure => simp [intOf]; omega
      · have hc : ¬ cmpI a x < 0 := by unfold cmpI; split <;> (try split) <;> omega
        have hcb : decide (cmpI a x < 0) = false := by simpa using hc
        generalize cmpI a x = u at *
        go_wp2_with fail
        go_roundw
        case rel => exact ⟨lo, md, rfl, rfl, h1, h4, by omega, B1⟩
        case measure => simp [intOf]; omega
    · obtain rfl : lo = i := by omega
      obtain rfl : hi' = lo := by omega
      by_cases hin : hi' < H.length
      · obtain ⟨b, rfl⟩ : ∃ b, A = some ⟨b, 0, none⟩ := by
          rcases HV.out.forms with ⟨-, hz⟩ | ⟨g, cap, he, -⟩
          · omega
          · cases he; exact ⟨_, rfl⟩
        obtain ⟨x', hx⟩ : ∃ r, H[hi']? = some r := ⟨H[hi']'(by omega), List.getElem?_eq_getElem _⟩
        have HW := HV.out.keepB hB.out
        have d0 : wr.cell? ⟨b, hi' * 3, none⟩ = some (.int .i64 x'.page) := HW.cell (j := hi' * 3 + 0) (u := .int .i64 x'.page) (by rw [dbs_at H hi' x' hx 0 (by decide)]; rfl)
        have d1 := HW.cell (j := hi' * 3 + 1) (u := .int .i64 x'.first) (by rw [dbs_at H hi' x' hx 1 (by decide)]; rfl)
        have d2 := HW.cell (j := hi' * 3 + 2) (u := .int .i64 x'.un) (by rw [dbs_at H hi' x' hx 2 (by decide)]; rfl)
        have hpg := pgD_at hx
        have hge := HHI.out hi' (Nat.le_refl _) hin
        rw [hpg] at hge
        have HA := Lib.hid hpg
        clear HW hx hpg
        generalize x'.first = z0 at *
        generalize x'.un = z1 at *
        obtain ⟨a, ha⟩ : ∃ a : Int, a = (x'.page : Int) := ⟨_, rfl⟩
        rw [← ha] at d0 hge
        have HPA := Lib.hid (show ((pgD H hi' : Nat) : Int) = a by rw [HA.out, ha])
        clear ha HA
        have hcq : (cmpI a x = 0) ↔ (a = x) := by unfold cmpI; split <;> (try split) <;> omega
        have HCQ := Lib.hid hcq
        clear hcq
        go_wp2_with fail
        refine (HB.out _ _ _ _ hcb.out hgb).mono ?_
        rintro e w2 ⟨rfl, hX⟩
        have B1 := Lib.hid (bl hB.out hX)
        clear hB hX hcb d0 d1 d2
        go_wp2_with fail
        go_returns
        refine ⟨?_, B1.out⟩
        rw [HPA.out]
        have : (cmpI a x == 0) = decide (hi' < H.length ∧ a = x) := by
          rw [Bool.eq_iff_iff]
          simp only [beq_iff_eq, decide_eq_true_eq, HCQ.out]
          exact ⟨fun h => ⟨hin, h⟩, fun h => h.2⟩
        rw [← this]
        rfl
      · go_wp2_with fail
        go_returns
        exact ⟨by simp [hin], hB.out⟩
set_option maxHeartbeats 1000000 in
theorem place_debt (v : Value) (H : List Db) (x : Int) (w : World) (hv : Vec w 114 3 v H.length (dbs H)) (hn : H.length ≤ 262144) (hr : Rise (H.map Db.page)) :
    Calls Tryz.prog 77 #[v, .int .i64 x, num_debt] w fun e w' =>
      e = .returned (.tuple #[.int .i64 ((spot (H.map Db.page) x : Nat) : Int), .bool (decide (spot (H.map Db.page) x < H.length ∧ (pgD H (spot (H.map Db.page) x) : Int) = x))]) ∧ Below w.heap.size w w' := by
  obtain ⟨A, c, rfl⟩ := hv.slice
  have hb : Hid (Below w.heap.size w (w.alloc (.cells #[num_debt] 157))) := Lib.hid (blA (Below.refl _ _) _)
  have hlen : (H.map Db.page).length = H.length := List.length_map _
  have HX := Lib.hid (search_debt A c w.heap.size H x (spot (H.map Db.page) x) _ (hv.keepB hb.out) hn ((Blk.new w #[num_debt] 157).cell 0) (by simp) (by rw [← hlen]; exact spot_le _ _) (fun k hk => spot_lo _ x k hk) (fun k h1 h2 => spot_hi _ hr x k h1 (by rw [hlen]; exact h2)))
  have hmf : ∀ (fn : Fn) (first cap : Array Value) (w : World), (Instr.makeFunc fn first cap).run Tryz.prog w = .ok (.func fn first cap) w := fun _ _ _ _ => rfl
  unfold num_debt by_debt at *
  generalize spot (H.map Db.page) x = i at *
  generalize decide (i < H.length ∧ (pgD H i : Int) = x) = fd at *
  clear hv
  go_enter Tryz.func77, Tryz.ntmps77
  go_wp2_with fail
  refine HX.out.mono ?_
  rintro e w2 ⟨rfl, hb2⟩
  have B2 := Lib.hid (bl hb.out hb2)
  clear hb hb2 HX
  go_wp2_with fail
  go_returns
  exact ⟨rfl, B2.out⟩
end Go.Proofs.YtapdpdhibpblgaaGreatDoor.Tr
end

-- joined
section
namespace Go.Proofs.YtapdpdhibpblgaaGreatDoor.Tr
open Go.ChangeShapes Go.WideShapes Go.ChangeAt Go.RowKit Go.PlainAid Aid
set_option linter.unusedVariables false
set_option linter.unusedSimpArgs false
section
variable {α : Type}
/-- What the pages have, in a row. -/
def lst (h : Nat → Option α) (n : Nat) : List α := (List.range n).filterMap h
/-- .. from a page on. -/
def rst (h : Nat → Option α) (a n : Nat) : List α := (List.range' a (n - a)).filterMap h
/-- One page has another. -/
def put (h : Nat → Option α) (p : Nat) (y : Option α) : Nat → Option α := fun k => if k = p then y else h k
theorem put_same (h : Nat → Option α) (p : Nat) (y : Option α) : put h p y p = y := if_pos rfl
theorem put_other (h : Nat → Option α) (p k : Nat) (y : Option α) (hk : k ≠ p) : put h p y k = h k := if_neg hk
theorem lst_split (h : Nat → Option α) (p n : Nat) (hp : p < n) : lst h n = lst h p ++ ((h p).toList ++ rst h (p + 1) n) := by
  have e : List.range n = List.range p ++ (p :: List.range' (p + 1) (n - (p + 1))) := by
    rw [List.range_eq_range', List.range_eq_range', ← List.range'_succ, show n - (p + 1) + 1 = n - p by omega]
    have := List.range'_append (s := 0) (m := p) (n := n - p) (step := 1)
    rw [show p + (n - p) = n by omega] at this
    simpa using this.symm
  unfold lst rst
  rw [e, List.filterMap_append, List.filterMap_cons]
  cases h p <;> rfl
theorem filterMap_same (h k : Nat → Option α) : ∀ l : List Nat, (∀ i, i ∈ l → h i = k i) → l.filterMap h = l.filterMap k
  | [], _ => rfl
  | a :: l, e => by rw [List.filterMap_cons, List.filterMap_cons, e a (List.mem_cons_self ..), filterMap_same h k l fun i hi => e i (List.mem_cons_of_mem _ hi)]
theorem lst_congr (h k : Nat → Option α) (n : Nat) (e : ∀ i, i < n → h i = k i) : lst h n = lst k n :=
  filterMap_same _ _ _ fun i hi => e i (by simpa using hi)
theorem lst_put (h : Nat → Option α) (p n : Nat) (hp : p < n) (y : Option α) : lst (put h p y) n = lst h p ++ (y.toList ++ rst h (p + 1) n) := by
  rw [lst_split _ p n hp, put_same]
  congr 1
  · exact lst_congr _ _ _ fun i hi => put_other _ _ _ _ (by omega)
  · congr 1
    refine filterMap_same _ _ _ fun i hi => put_other _ _ _ _ ?_
    have := List.mem_range'_1.1 hi
    omega
theorem lst_le (h : Nat → Option α) (n : Nat) : (lst h n).length ≤ n := by
  have := List.length_filterMap_le h (List.range n)
  simpa [lst] using this
theorem lst_get (h : Nat → Option α) (p n : Nat) (hp : p < n) (x : α) (hx : h p = some x) : (lst h n)[(lst h p).length]? = some x := by
  rw [lst_split h p n hp, hx, List.getElem?_append_right (Nat.le_refl _), Nat.sub_self]
  rfl
theorem lst_mono (h : Nat → Option α) (p n : Nat) (hp : p ≤ n) : (lst h p).length ≤ (lst h n).length := by
  rcases Nat.lt_or_eq_of_le hp with hp | rfl
  · rw [lst_split h p n hp]; simp
  · exact Nat.le_refl _
theorem lst_lt (h : Nat → Option α) (p n : Nat) (hp : p < n) (x : α) (hx : h p = some x) : (lst h p).length < (lst h n).length := by
  have := lst_get h p n hp x hx
  exact (List.getElem?_eq_some_iff.1 this).1
theorem lst_succ (h : Nat → Option α) (n : Nat) : lst h (n + 1) = lst h n ++ (h n).toList := by
  rw [lst_split h n (n + 1) (Nat.lt_succ_self _)]
  simp [rst]
/-- Each stands somewhere. -/
theorem lst_mem (h : Nat → Option α) (n i : Nat) (x : α) (hx : (lst h n)[i]? = some x) : ∃ p, p < n ∧ h p = some x ∧ (lst h p).length = i := by
  induction n with
  | zero => simp [lst] at hx
  | succ n ih =>
    rw [lst_succ] at hx
    rcases Nat.lt_or_ge i (lst h n).length with hi | hi
    · rw [List.getElem?_append_left hi] at hx
      obtain ⟨p, hp, h1, h2⟩ := ih hx
      exact ⟨p, by omega, h1, h2⟩
    · rw [List.getElem?_append_right hi] at hx
      cases hn : h n with
      | none => rw [hn] at hx; simp at hx
      | some y =>
        rw [hn] at hx
        have h0 : i - (lst h n).length = 0 := by
          rcases Nat.eq_zero_or_pos (i - (lst h n).length) with h0 | h0
          · exact h0
          · obtain ⟨k, hk⟩ : ∃ k, i - (lst h n).length = k + 1 := ⟨_, (Nat.sub_add_cancel h0).symm⟩
            rw [hk] at hx; cases hx
        rw [h0] at hx
        exact ⟨n, Nat.lt_succ_self _, by rw [hn]; simpa using hx, by omega⟩
variable (pg : α → Nat)
theorem spot_app (A B : List Nat) (x : Int) (hA : ∀ a, a ∈ A → (a : Int) < x) (hB : ∀ b, b ∈ B → x ≤ (b : Int)) : spot (A ++ B) x = A.length := by
  unfold spot
  induction A with
  | nil =>
    cases B with
    | nil => rfl
    | cons b B =>
      have := hB b (List.mem_cons_self ..)
      rw [List.nil_append, List.takeWhile_cons, if_neg (by simp; omega)]
  | cons a A ih =>
    rw [List.cons_append, List.takeWhile_cons, if_pos (by simpa using hA a (List.mem_cons_self ..)), List.length_cons, ih (fun b hb => hA b (List.mem_cons_of_mem _ hb)), List.length_cons]
variable {pg} {h : Nat → Option α} (ho : ∀ p x, h p = some x → pg x = p)
include ho
theorem lst_lo (n : Nat) : ∀ a, a ∈ (lst h n).map pg → a < n := fun a ha => by
  obtain ⟨x, hx, rfl⟩ := List.mem_map.1 ha
  obtain ⟨p, hp, h1⟩ := List.mem_filterMap.1 hx
  rw [ho p x h1]
  simpa using hp
theorem rst_hi (p n : Nat) : ∀ a, a ∈ (rst h p n).map pg → p ≤ a := fun a ha => by
  obtain ⟨x, hx, rfl⟩ := List.mem_map.1 ha
  obtain ⟨q, hq, h1⟩ := List.mem_filterMap.1 hx
  rw [ho q x h1]
  have := List.mem_range'_1.1 hq
  omega
theorem lst_rise (n : Nat) : Rise ((lst h n).map pg) := by
  unfold Rise
  induction n with
  | zero => exact List.Pairwise.nil
  | succ n ih =>
    rw [lst_succ, List.map_append, List.pairwise_append]
    refine ⟨ih, ?_, fun a ha b hb => ?_⟩
    · cases h n <;> simp
    · obtain ⟨x, hx, rfl⟩ := List.mem_map.1 hb
      have := lst_lo ho n a ha
      cases hn : h n with
      | none => rw [hn] at hx; simp at hx
      | some y =>
        rw [hn] at hx
        simp only [Option.toList_some, List.mem_singleton] at hx
        subst hx
        rw [ho n x hn]; exact this
theorem spot_lst (p n : Nat) (hp : p < n) : spot ((lst h n).map pg) (p : Int) = (lst h p).length := by
  rw [lst_split h p n hp, List.map_append, spot_app, List.length_map]
  · exact fun a ha => by have := lst_lo ho p a ha; omega
  · intro b hb
    rw [List.map_append, List.mem_append] at hb
    rcases hb with hb | hb
    · obtain ⟨x, hx, rfl⟩ := List.mem_map.1 hb
      cases hn : h p with
      | none => rw [hn] at hx; simp at hx
      | some y =>
        rw [hn] at hx
        simp only [Option.toList_some, List.mem_singleton] at hx
        subst hx
        rw [ho p x hn]; exact Int.le_refl _
    · have := rst_hi ho (p + 1) n b hb; omega
theorem found_lst (p n : Nat) (hp : p < n) : decide ((lst h p).length < (lst h n).length ∧ ((((lst h n).map pg).getD (lst h p).length 0 : Nat) : Int) = p) = (h p).isSome := by
  cases hn : h p with
  | some x =>
    have h1 := lst_lt h p n hp x hn
    have h2 := lst_get h p n hp x hn
    have h3 := ho p x hn
    rw [List.getD_eq_getElem?_getD, List.getElem?_map, h2]
    simp [h1, h3]
  | none =>
    simp only [Option.isSome_none, decide_eq_false_iff_not, not_and]
    intro h1 h2
    rw [List.getD_eq_getElem?_getD, List.getElem?_map, List.getElem?_eq_getElem h1] at h2
    obtain ⟨q, hq, h3, h4⟩ := lst_mem h n _ _ (List.getElem?_eq_getElem h1)
    simp only [Option.map_some, Option.getD_some] at h2
    rw [ho q _ h3] at h2
    have : q = p := by omega
    subst this
    rw [hn] at h3; cases h3
theorem found_out (x : Int) (n : Nat) (hx : x < 0 ∨ (n : Int) ≤ x) : decide (spot ((lst h n).map pg) x < (lst h n).length ∧ ((((lst h n).map pg).getD (spot ((lst h n).map pg) x) 0 : Nat) : Int) = x) = false := by
  simp only [decide_eq_false_iff_not, not_and]
  intro h1 h2
  have h1' : spot ((lst h n).map pg) x < ((lst h n).map pg).length := by simpa using h1
  rw [List.getD_eq_getElem?_getD, List.getElem?_eq_getElem h1', Option.getD_some] at h2
  have := lst_lo ho n _ (List.getElem_mem h1')
  omega
end
end Go.Proofs.YtapdpdhibpblgaaGreatDoor.Tr
end
