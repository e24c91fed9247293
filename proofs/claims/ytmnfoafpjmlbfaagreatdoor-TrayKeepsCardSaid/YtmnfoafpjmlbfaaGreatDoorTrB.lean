/- Where a page stands in a list that rises: place, of sheets and of debts. -/
import Derived.Test.YtmnfoafpjmlbfaaGreatDoorNdA
import Derived.Test.YtmnfoafpjmlbfaaGreatDoorDyB

namespace Go.Proofs.YtmnfoafpjmlbfaaGreatDoor.Tr
open Go.ChangeShapes Go.WideShapes Go.ChangeAt Go.RowKit Go.PlainAid Aid Nt Nd
set_option linter.unusedVariables false
set_option linter.unusedSimpArgs false

/-! sheet -/
theorem shs_at (H : List Sh) (k : Nat) (x : Sh) (h : H[k]? = some x) (j : Nat) (hj : j < 8) : (shs H)[k * 8 + j]? = (shC x)[j]? := flatMap_at shC 8 (fun _ => rfl) H k j x h hj
def num_sheet : Value := .func (.func 45) #[] #[]
def by_sheet (gb : Nat) : Value := .func (.func 84) #[] #[.pointer (some ⟨gb, 0, none⟩)]
set_option maxHeartbeats 400000 in
theorem number_sheet (a : Int) (u1 u2 u3 u4 u5 u6 u7 : Value) (w : World) :
    Calls Tryz.prog 45 #[.agg #[.int .i64 a, u1, u2, u3, u4, u5, u6, u7]] w fun e w' => e = .returned (.int .i64 a) ∧ Below w.heap.size w w' := by
  have B0 : Hid (Below w.heap.size w (w.alloc (.cells #[.int .i64 a, u1, u2, u3, u4, u5, u6, u7] 99))) := Lib.hid (blA (Below.refl _ _) _)
  go_enter Tryz.func45, Tryz.ntmps45
  go_wp2_with fail
  go_returns
  exact ⟨rfl, B0.out⟩
set_option maxHeartbeats 1000000 in
theorem by_sheet_any (gb : Nat) (a x : Int) (u1 u2 u3 u4 u5 u6 u7 : Value) (w : World) (hc : w.cell? ⟨gb, 0, none⟩ = some num_sheet) (hl : gb < w.heap.size) :
    Calls Tryz.prog 84 #[.agg #[.int .i64 a, u1, u2, u3, u4, u5, u6, u7], .int .i64 x, .pointer (some ⟨gb, 0, none⟩)] w fun e w' => e = .returned (.int .i64 (cmpI a x)) ∧ Below w.heap.size w w' := by
  have HC := Lib.hid (fun w => compare_any a x w)
  have HN := Lib.hid (fun w => number_sheet a u1 u2 u3 u4 u5 u6 u7 w)
  have B0 : Hid (Below w.heap.size w (w.alloc (.cells #[.int .i64 a, u1, u2, u3, u4, u5, u6, u7] 99))) := Lib.hid (blA (Below.refl _ _) _)
  have c1 := (bcell B0.out).1 _ 0 hl
  rw [hc] at c1
  unfold num_sheet at c1
  clear hc
  go_enter Tryz.func84, Tryz.ntmps84
  go_wp2_with fail
  refine (HN.out _).mono ?_
  rintro e w2 ⟨rfl, hb⟩
  have B2 := Lib.hid (bl B0.out hb)
  clear hb 
  go_wp2_with fail
  refine (HC.out _).mono ?_
  rintro e w' ⟨rfl, rfl⟩
  go_wp2_with fail
  go_returns
  exact ⟨rfl, B2.out⟩
set_option maxRecDepth 100000 in
set_option maxHeartbeats 2000000 in
theorem search_sheet (A : Option Addr) (c gb : Nat) (H : List Sh) (x : Int) (i : Nat) (w : World) (hv : Vec w 99 8 (.slice A H.length c) H.length (shs H)) (hn : H.length ≤ 262144)
    (hc : w.cell? ⟨gb, 0, none⟩ = some num_sheet) (hl : gb < w.heap.size) (hi : i ≤ H.length) (hlo : ∀ k, k < i → (pgS H k : Int) < x) (hhi : ∀ k, i ≤ k → k < H.length → x ≤ pgS H k) :
    Calls Tryz.prog 83 #[.slice A H.length c, .int .i64 x, by_sheet gb] w fun e w' =>
      e = .returned (.tuple #[.int .i64 i, .bool (decide (i < H.length ∧ (pgS H i : Int) = x))]) ∧ Below w.heap.size w w' := by
  have HV := Lib.hid hv
  have HLO := Lib.hid hlo
  have HHI := Lib.hid hhi
  have HCC := Lib.hid hc
  have HB := Lib.hid (fun (a : Int) u1 u2 u3 u4 u5 u6 u7 w hc hl => by_sheet_any gb a x u1 u2 u3 u4 u5 u6 u7 w hc hl)
  have B0 : Hid (Below w.heap.size w w) := Lib.hid (Below.refl _ _)
  clear hv hlo hhi hc
  unfold by_sheet at *
  go_enter Tryz.func83, Tryz.ntmps83
  go_wp2_with fail
  go_loopw [9, 10, 11] (fun p q _ wr => ∃ lo hi : Nat, p = .int .i64 lo ∧ q = .int .i64 hi ∧ lo ≤ i ∧ i ≤ hi ∧ hi ≤ H.length ∧ Hid (Below w.heap.size w wr)) (fun p q _ _ => (intOf q).toNat - (intOf p).toNat)
  case atStart => exact ⟨0, H.length, rfl, rfl, Nat.zero_le _, hi, Nat.le_refl _, B0⟩
  case round =>
    clear B0
    obtain ⟨lo, hi', rfl, rfl, h1, h2, h3, hB⟩ := hrel
    have hgb : gb < wr.heap.size := Nat.lt_of_lt_of_le hl hB.out.size
    have hcb := Lib.hid ((hB.out.cell (p := ⟨gb, 0, none⟩) hl).trans HCC.out)
    by_cases hlt : lo < hi'
    · obtain ⟨b, rfl⟩ : ∃ b, A = some ⟨b, 0, none⟩ := by
        rcases HV.out.forms with ⟨-, hz⟩ | ⟨g, cap, he, -⟩
        · omega
        · cases he; exact ⟨_, rfl⟩
      have hw1 : IntKind.u64.wrap ((lo : Int) + hi') = (lo : Int) + hi' := by rw [IntKind.wrap_u64]; omega
      have hw2 : IntKind.i64.wrap ((lo : Int) + hi') = (lo : Int) + hi' := by rw [IntKind.wrap_i64]; omega
      go_upto_region 5 with fail
      obtain ⟨md, hmd⟩ : ∃ md : Nat, ((lo : Int) + hi') / 2 = md := ⟨(lo + hi') / 2, by omega⟩
      have hm1 : lo ≤ md := by omega
      have hm2 : md < hi' := by omega
      obtain ⟨x', hx⟩ : ∃ r, H[md]? = some r := ⟨H[md]'(by omega), List.getElem?_eq_getElem _⟩
      have HW := HV.out.keepB hB.out
      have d0 : wr.cell? ⟨b, md * 8, none⟩ = some (.int .i64 x'.page) := HW.cell (j := md * 8 + 0) (u := .int .i64 x'.page) (by rw [shs_at H md x' hx 0 (by decide)]; rfl)
      have d1 := HW.cell (j := md * 8 + 1) (u := .int .i64 x'.n.tree) (by rw [shs_at H md x' hx 1 (by decide)]; rfl)
      have d2 := HW.cell (j := md * 8 + 2) (u := .int .i64 x'.n.level) (by rw [shs_at H md x' hx 2 (by decide)]; rfl)
      have d3 := HW.cell (j := md * 8 + 3) (u := .int .i64 x'.n.stamp) (by rw [shs_at H md x' hx 3 (by decide)]; rfl)
      have d4 := HW.cell (j := md * 8 + 4) (u := .bool x'.n.has) (by rw [shs_at H md x' hx 4 (by decide)]; rfl)
      have d5 := HW.cell (j := md * 8 + 5) (u := .string (ofL x'.n.high)) (by rw [shs_at H md x' hx 5 (by decide)]; rfl)
      have d6 := HW.cell (j := md * 8 + 6) (u := .int .i64 x'.n.right) (by rw [shs_at H md x' hx 6 (by decide)]; rfl)
      have d7 := HW.cell (j := md * 8 + 7) (u := x'.v) (by rw [shs_at H md x' hx 7 (by decide)]; rfl)
      have hpg := pgS_at hx
      have hml : md < H.length := by omega
      have hsplit : (md < i ∧ (x'.page : Int) < x) ∨ (i ≤ md ∧ ¬ (x'.page : Int) < x) := by
        rw [← hpg]
        rcases Nat.lt_or_ge md i with h | h
        · exact Or.inl ⟨h, HLO.out md h⟩
        · exact Or.inr ⟨h, by have := HHI.out md h (by omega); omega⟩
      clear HW hx hw1 hw2 hpg
      rw [hmd]
      clear hmd
      generalize x'.n.tree = z0 at *
      generalize x'.n.level = z1 at *
      generalize x'.n.stamp = z2 at *
      generalize x'.n.has = z3 at *
      generalize ofL x'.n.high = z4 at *
      generalize x'.n.right = z5 at *
      generalize x'.v = z6 at *
      obtain ⟨a, ha⟩ : ∃ a : Int, a = (x'.page : Int) := ⟨_, rfl⟩
      rw [← ha] at d0 hsplit
      clear ha
      go_wp2_with fail
      refine (HB.out _ _ _ _ _ _ _ _ _ hcb.out hgb).mono ?_
      rintro e w2 ⟨rfl, hX⟩
      have B1 := Lib.hid (bl hB.out hX)
      clear hB hX hcb d0 d1 d2 d3 d4 d5 d6 d7
      rcases hsplit with ⟨h4, h5⟩ | ⟨h4, h5⟩
      · have hc : cmpI a x = -1 := if_pos h5
        rw [hc]
        go_wp2_with fail
        go_roundw
        case rel => exact ⟨md + 1, hi', by go_num, rfl, by omega, h2, h3, B1⟩
        case measure => simp [intOf]; omega
      · have hc : ¬ cmpI a x < 0 := by unfold cmpI; split <;> (try split) <;> omega
        have hcb : decide (cmpI a x < 0) = false := by simpa using hc
        generalize cmpI a x = u at *
        go_wp2_with fail
        go_roundw
        case rel => exact ⟨lo, md, rfl, rfl, h1, h4, by omega, B1⟩
        case measure => simp [intOf]; omega
    · obtain rfl : lo = i := by omega
      obtain rfl : hi' = lo := by omega
      by_cases hin : hi' < H.length
      · obtain ⟨b, rfl⟩ : ∃ b, A = some ⟨b, 0, none⟩ := by
          rcases HV.out.forms with ⟨-, hz⟩ | ⟨g, cap, he, -⟩
          · omega
          · cases he; exact ⟨_, rfl⟩
        obtain ⟨x', hx⟩ : ∃ r, H[hi']? = some r := ⟨H[hi']'(by omega), List.getElem?_eq_getElem _⟩
        have HW := HV.out.keepB hB.out
        have d0 : wr.cell? ⟨b, hi' * 8, none⟩ = some (.int .i64 x'.page) := HW.cell (j := hi' * 8 + 0) (u := .int .i64 x'.page) (by rw [shs_at H hi' x' hx 0 (by decide)]; rfl)
        have d1 := HW.cell (j := hi' * 8 + 1) (u := .int .i64 x'.n.tree) (by rw [shs_at H hi' x' hx 1 (by decide)]; rfl)
        have d2 := HW.cell (j := hi' * 8 + 2) (u := .int .i64 x'.n.level) (by rw [shs_at H hi' x' hx 2 (by decide)]; rfl)
        have d3 := HW.cell (j := hi' * 8 + 3) (u := .int .i64 x'.n.stamp) (by rw [shs_at H hi' x' hx 3 (by decide)]; rfl)
        have d4 := HW.cell (j := hi' * 8 + 4) (u := .bool x'.n.has) (by rw [shs_at H hi' x' hx 4 (by decide)]; rfl)
        have d5 := HW.cell (j := hi' * 8 + 5) (u := .string (ofL x'.n.high)) (by rw [shs_at H hi' x' hx 5 (by decide)]; rfl)
        have d6 := HW.cell (j := hi' * 8 + 6) (u := .int .i64 x'.n.right) (by rw [shs_at H hi' x' hx 6 (by decide)]; rfl)
        have d7 := HW.cell (j := hi' * 8 + 7) (u := x'.v) (by rw [shs_at H hi' x' hx 7 (by decide)]; rfl)
        have hpg := pgS_at hx
        have hge := HHI.out hi' (Nat.le_refl _) hin
        rw [hpg] at hge
        have HA := Lib.hid hpg
        clear HW hx hpg
        generalize x'.n.tree = z0 at *
        generalize x'.n.level = z1 at *
        generalize x'.n.stamp = z2 at *
        generalize x'.n.has = z3 at *
        generalize ofL x'.n.high = z4 at *
        generalize x'.n.right = z5 at *
        generalize x'.v = z6 at *
        obtain ⟨a, ha⟩ : ∃ a : Int, a = (x'.page : Int) := ⟨_, rfl⟩
        rw [← ha] at d0 hge
        have HPA := Lib.hid (show ((pgS H hi' : Nat) : Int) = a by rw [HA.out, ha])
        clear ha HA
        have hcq : (cmpI a x = 0) ↔ (a = x) := by unfold cmpI; split <;> (try split) <;> omega
        have HCQ := Lib.hid hcq
        clear hcq
        go_wp2_with fail
        refine (HB.out _ _ _ _ _ _ _ _ _ hcb.out hgb).mono ?_
        rintro e w2 ⟨rfl, hX⟩
        have B1 := Lib.hid (bl hB.out hX)
        clear hB hX hcb d0 d1 d2 d3 d4 d5 d6 d7
        go_wp2_with fail
        go_returns
        refine ⟨?_, B1.out⟩
        rw [HPA.out]
        have : (cmpI a x == 0) = decide (hi' < H.length ∧ a = x) := by
          rw [Bool.eq_iff_iff]
          simp only [beq_iff_eq, decide_eq_true_eq, HCQ.out]
          exact ⟨fun h => ⟨hin, h⟩, fun h => h.2⟩
        rw [← this]
        rfl
      · go_wp2_with fail
        go_returns
        exact ⟨by simp [hin], hB.out⟩
set_option maxHeartbeats 1000000 in
theorem place_sheet (v : Value) (H : List Sh) (x : Int) (w : World) (hv : Vec w 99 8 v H.length (shs H)) (hn : H.length ≤ 262144) (hr : Rise (H.map Sh.page)) :
    Calls Tryz.prog 44 #[v, .int .i64 x, num_sheet] w fun e w' =>
      e = .returned (.tuple #[.int .i64 ((spot (H.map Sh.page) x : Nat) : Int), .bool (decide (spot (H.map Sh.page) x < H.length ∧ (pgS H (spot (H.map Sh.page) x) : Int) = x))]) ∧ Below w.heap.size w w' := by
  obtain ⟨A, c, rfl⟩ := hv.slice
  have hb : Hid (Below w.heap.size w (w.alloc (.cells #[num_sheet] 111))) := Lib.hid (blA (Below.refl _ _) _)
  have hlen : (H.map Sh.page).length = H.length := List.length_map _
  have HX := Lib.hid (search_sheet A c w.heap.size H x (spot (H.map Sh.page) x) _ (hv.keepB hb.out) hn ((Blk.new w #[num_sheet] 111).cell 0) (by simp) (by rw [← hlen]; exact spot_le _ _) (fun k hk => spot_lo _ x k hk) (fun k h1 h2 => spot_hi _ hr x k h1 (by rw [hlen]; exact h2)))
  have hmf : ∀ (fn : Fn) (first cap : Array Value) (w : World), (Instr.makeFunc fn first cap).run Tryz.prog w = .ok (.func fn first cap) w := fun _ _ _ _ => rfl
  unfold num_sheet by_sheet at *
  generalize spot (H.map Sh.page) x = i at *
  generalize decide (i < H.length ∧ (pgS H i : Int) = x) = fd at *
  clear hv
  go_enter Tryz.func44, Tryz.ntmps44
  go_wp2_with fail
  refine HX.out.mono ?_
  rintro e w2 ⟨rfl, hb2⟩
  have B2 := Lib.hid (bl hb.out hb2)
  clear hb hb2 HX
  go_wp2_with fail
  go_returns
  exact ⟨rfl, B2.out⟩

/-! debt -/
theorem dbs_at (H : List Db) (k : Nat) (x : Db) (h : H[k]? = some x) (j : Nat) (hj : j < 3) : (dbs H)[k * 3 + j]? = (dbC x)[j]? := flatMap_at dbC 3 (fun _ => rfl) H k j x h hj
def num_debt : Value := .func (.func 87) #[] #[]
def by_debt (gb : Nat) : Value := .func (.func 126) #[] #[.pointer (some ⟨gb, 0, none⟩)]
set_option maxHeartbeats 400000 in
theorem number_debt (a : Int) (u1 u2 : Value) (w : World) :
    Calls Tryz.prog 87 #[.agg #[.int .i64 a, u1, u2]] w fun e w' => e = .returned (.int .i64 a) ∧ Below w.heap.size w w' := by
  have B0 : Hid (Below w.heap.size w (w.alloc (.cells #[.int .i64 a, u1, u2] 115))) := Lib.hid (blA (Below.refl _ _) _)
  go_enter Tryz.func87, Tryz.ntmps87
  go_wp2_with fail
  go_returns
  exact ⟨rfl, B0.out⟩
set_option maxHeartbeats 1000000 in
theorem by_debt_any (gb : Nat) (a x : Int) (u1 u2 : Value) (w : World) (hc : w.cell? ⟨gb, 0, none⟩ = some num_debt) (hl : gb < w.heap.size) :
    Calls Tryz.prog 126 #[.agg #[.int .i64 a, u1, u2], .int .i64 x, .pointer (some ⟨gb, 0, none⟩)] w fun e w' => e = .returned (.int .i64 (cmpI a x)) ∧ Below w.heap.size w w' := by
  have HC := Lib.hid (fun w => compare_any a x w)
  have HN := Lib.hid (fun w => number_debt a u1 u2 w)
  have B0 : Hid (Below w.heap.size w (w.alloc (.cells #[.int .i64 a, u1, u2] 115))) := Lib.hid (blA (Below.refl _ _) _)
  have c1 := (bcell B0.out).1 _ 0 hl
  rw [hc] at c1
  unfold num_debt at c1
  clear hc
  go_enter Tryz.func126, Tryz.ntmps126
  go_wp2_with fail
  refine (HN.out _).mono ?_
  rintro e w2 ⟨rfl, hb⟩
  have B2 := Lib.hid (bl B0.out hb)
  clear hb 
  go_wp2_with fail
  refine (HC.out _).mono ?_
  rintro e w' ⟨rfl, rfl⟩
  go_wp2_with fail
  go_returns
  exact ⟨rfl, B2.out⟩
set_option maxRecDepth 100000 in
set_option maxHeartbeats 2000000 in
theorem search_debt (A : Option Addr) (c gb : Nat) (H : List Db) (x : Int) (i : Nat) (w : World) (hv : Vec w 115 3 (.slice A H.length c) H.length (dbs H)) (hn : H.length ≤ 262144)
    (hc : w.cell? ⟨gb, 0, none⟩ = some num_debt) (hl : gb < w.heap.size) (hi : i ≤ H.length) (hlo : ∀ k, k < i → (pgD H k : Int) < x) (hhi : ∀ k, i ≤ k → k < H.length → x ≤ pgD H k) :
    Calls Tryz.prog 125 #[.slice A H.length c, .int .i64 x, by_debt gb] w fun e w' =>
      e = .returned (.tuple #[.int .i64 i, .bool (decide (i < H.length ∧ (pgD H i : Int) = x))]) ∧ Below w.heap.size w w' := by
  have HV := Lib.hid hv
  have HLO := Lib.hid hlo
  have HHI := Lib.hid hhi
  have HCC := Lib.hid hc
  have HB := Lib.hid (fun (a : Int) u1 u2 w hc hl => by_debt_any gb a x u1 u2 w hc hl)
  have B0 : Hid (Below w.heap.size w w) := Lib.hid (Below.refl _ _)
  clear hv hlo hhi hc
  unfold by_debt at *
  go_enter Tryz.func125, Tryz.ntmps125
  go_wp2_with fail
  go_loopw [9, 10, 11] (fun p q _ wr => ∃ lo hi : Nat, p = .int .i64 lo ∧ q = .int .i64 hi ∧ lo ≤ i ∧ i ≤ hi ∧ hi ≤ H.length ∧ Hid (Below w.heap.size w wr)) (fun p q _ _ => (intOf q).toNat - (intOf p).toNat)
  case atStart => exact ⟨0, H.length, rfl, rfl, Nat.zero_le _, hi, Nat.le_refl _, B0⟩
  case round =>
    clear B0
    obtain ⟨lo, hi', rfl, rfl, h1, h2, h3, hB⟩ := hrel
    have hgb : gb < wr.heap.size := Nat.lt_of_lt_of_le hl hB.out.size
    have hcb := Lib.hid ((hB.out.cell (p := ⟨gb, 0, none⟩) hl).trans HCC.out)
    by_cases hlt : lo < hi'
    · obtain ⟨b, rfl⟩ : ∃ b, A = some ⟨b, 0, none⟩ := by
        rcases HV.out.forms with ⟨-, hz⟩ | ⟨g, cap, he, -⟩
        · omega
        · cases he; exact ⟨_, rfl⟩
      have hw1 : IntKind.u64.wrap ((lo : Int) + hi') = (lo : Int) + hi' := by rw [IntKind.wrap_u64]; omega
      have hw2 : IntKind.i64.wrap ((lo : Int) + hi') = (lo : Int) + hi' := by rw [IntKind.wrap_i64]; omega
      go_upto_region 5 with fail
      obtain ⟨md, hmd⟩ : ∃ md : Nat, ((lo : Int) + hi') / 2 = md := ⟨(lo + hi') / 2, by omega⟩
      have hm1 : lo ≤ md := by omega
      have hm2 : md < hi' := by omega
      obtain ⟨x', hx⟩ : ∃ r, H[md]? = some r := ⟨H[md]'(by omega), List.getElem?_eq_getElem _⟩
      have HW := HV.out.keepB hB.out
      have d0 : wr.cell? ⟨b, md * 3, none⟩ = some (.int .i64 x'.page) := HW.cell (j := md * 3 + 0) (u := .int .i64 x'.page) (by rw [dbs_at H md x' hx 0 (by decide)]; rfl)
      have d1 := HW.cell (j := md * 3 + 1) (u := .int .i64 x'.first) (by rw [dbs_at H md x' hx 1 (by decide)]; rfl)
      have d2 := HW.cell (j := md * 3 + 2) (u := .int .i64 x'.un) (by rw [dbs_at H md x' hx 2 (by decide)]; rfl)
      have hpg := pgD_at hx
      have hml : md < H.length := by omega
      have hsplit : (md < i ∧ (x'.page : Int) < x) ∨ (i ≤ md ∧ ¬ (x'.page : Int) < x) := by
        rw [← hpg]
        rcases Nat.lt_or_ge md i with h | h
        · exact Or.inl ⟨h, HLO.out md h⟩
        · exact Or.inr ⟨h, by have := HHI.out md h (by omega); omega⟩
      clear HW hx hw1 hw2 hpg
      rw [hmd]
      clear hmd
      generalize x'.first = z0 at *
      generalize x'.un = z1 at *
      obtain ⟨a, ha⟩ : ∃ a : Int, a = (x'.page : Int) := ⟨_, rfl⟩
      rw [← ha] at d0 hsplit
      clear ha
      go_wp2_with fail
      refine (HB.out _ _ _ _ hcb.out hgb).mono ?_
      rintro e w2 ⟨rfl, hX⟩
      have B1 := Lib.hid (bl hB.out hX)
      clear hB hX hcb d0 d1 d2
      rcases hsplit with ⟨h4, h5⟩ | ⟨h4, h5⟩
      · have hc : cmpI a x = -1 := if_pos h5
        rw [hc]
        go_wp2_with fail
        go_roundw
        case rel => exact ⟨md + 1, hi', by go_num, rfl, by omega, h2, h3, B1⟩
        case measure => simp [intOf]; omega
      · have hc : ¬ cmpI a x < 0 := by unfold cmpI; split <;> (try split) <;> omega
        have hcb : decide (cmpI a x < 0) = false := by simpa using hc
        generalize cmpI a x = u at *
        go_wp2_with fail
        go_roundw
        case rel => exact ⟨lo, md, rfl, rfl, h1, h4, by omega, B1⟩
        case measure => simp [intOf]; omega
    · obtain rfl : lo = i := by omega
      obtain rfl : hi' = lo := by omega
      by_cases hin : hi' < H.length
      · obtain ⟨b, rfl⟩ : ∃ b, A = some ⟨b, 0, none⟩ := by
          rcases HV.out.forms with ⟨-, hz⟩ | ⟨g, cap, he, -⟩
          · omega
          · cases he; exact ⟨_, rfl⟩
        obtain ⟨x', hx⟩ : ∃ r, H[hi']? = some r := ⟨H[hi']'(by omega), List.getElem?_eq_getElem _⟩
        have HW := HV.out.keepB hB.out
        have d0 : wr.cell? ⟨b, hi' * 3, none⟩ = some (.int .i64 x'.page) := HW.cell (j := hi' * 3 + 0) (u := .int .i64 x'.page) (by rw [dbs_at H hi' x' hx 0 (by decide)]; rfl)
        have d1 := HW.cell (j := hi' * 3 + 1) (u := .int .i64 x'.first) (by rw [dbs_at H hi' x' hx 1 (by decide)]; rfl)
        have d2 := HW.cell (j := hi' * 3 + 2) (u := .int .i64 x'.un) (by rw [dbs_at H hi' x' hx 2 (by decide)]; rfl)
        have hpg := pgD_at hx
        have hge := HHI.out hi' (Nat.le_refl _) hin
        rw [hpg] at hge
        have HA := Lib.hid hpg
        clear HW hx hpg
        generalize x'.first = z0 at *
        generalize x'.un = z1 at *
        obtain ⟨a, ha⟩ : ∃ a : Int, a = (x'.page : Int) := ⟨_, rfl⟩
        rw [← ha] at d0 hge
        have HPA := Lib.hid (show ((pgD H hi' : Nat) : Int) = a by rw [HA.out, ha])
        clear ha HA
        have hcq : (cmpI a x = 0) ↔ (a = x) := by unfold cmpI; split <;> (try split) <;> omega
        have HCQ := Lib.hid hcq
        clear hcq
        go_wp2_with fail
        refine (HB.out _ _ _ _ hcb.out hgb).mono ?_
        rintro e w2 ⟨rfl, hX⟩
        have B1 := Lib.hid (bl hB.out hX)
        clear hB hX hcb d0 d1 d2
        go_wp2_with fail
        go_returns
        refine ⟨?_, B1.out⟩
        rw [HPA.out]
        have : (cmpI a x == 0) = decide (hi' < H.length ∧ a = x) := by
          rw [Bool.eq_iff_iff]
          simp only [beq_iff_eq, decide_eq_true_eq, HCQ.out]
          exact ⟨fun h => ⟨hin, h⟩, fun h => h.2⟩
        rw [← this]
        rfl
      · go_wp2_with fail
        go_returns
        exact ⟨by simp [hin], hB.out⟩
set_option maxHeartbeats 1000000 in
theorem place_debt (v : Value) (H : List Db) (x : Int) (w : World) (hv : Vec w 115 3 v H.length (dbs H)) (hn : H.length ≤ 262144) (hr : Rise (H.map Db.page)) :
    Calls Tryz.prog 86 #[v, .int .i64 x, num_debt] w fun e w' =>
      e = .returned (.tuple #[.int .i64 ((spot (H.map Db.page) x : Nat) : Int), .bool (decide (spot (H.map Db.page) x < H.length ∧ (pgD H (spot (H.map Db.page) x) : Int) = x))]) ∧ Below w.heap.size w w' := by
  obtain ⟨A, c, rfl⟩ := hv.slice
  have hb : Hid (Below w.heap.size w (w.alloc (.cells #[num_debt] 162))) := Lib.hid (blA (Below.refl _ _) _)
  have hlen : (H.map Db.page).length = H.length := List.length_map _
  have HX := Lib.hid (search_debt A c w.heap.size H x (spot (H.map Db.page) x) _ (hv.keepB hb.out) hn ((Blk.new w #[num_debt] 162).cell 0) (by simp) (by rw [← hlen]; exact spot_le _ _) (fun k hk => spot_lo _ x k hk) (fun k h1 h2 => spot_hi _ hr x k h1 (by rw [hlen]; exact h2)))
  have hmf : ∀ (fn : Fn) (first cap : Array Value) (w : World), (Instr.makeFunc fn first cap).run Tryz.prog w = .ok (.func fn first cap) w := fun _ _ _ _ => rfl
  unfold num_debt by_debt at *
  generalize spot (H.map Db.page) x = i at *
  generalize decide (i < H.length ∧ (pgD H i : Int) = x) = fd at *
  clear hv
  go_enter Tryz.func86, Tryz.ntmps86
  go_wp2_with fail
  refine HX.out.mono ?_
  rintro e w2 ⟨rfl, hb2⟩
  have B2 := Lib.hid (bl hb.out hb2)
  clear hb hb2 HX
  go_wp2_with fail
  go_returns
  exact ⟨rfl, B2.out⟩
end Go.Proofs.YtmnfoafpjmlbfaaGreatDoor.Tr
