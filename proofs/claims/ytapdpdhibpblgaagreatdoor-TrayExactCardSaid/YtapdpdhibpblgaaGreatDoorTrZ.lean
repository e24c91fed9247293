/- Texts of ours, joined. -/
import Derived.Test.YtapdpdhibpblgaaGreatDoorTrW
import Derived.Test.YtapdpdhibpblgaaGreatDoorTrN
import Derived.Test.YtapdpdhibpblgaaGreatDoorSep
import Derived.Deep.RegionLaw
import Derived.Deep.RegionHeld

-- joined
section
namespace Go.Proofs.YtapdpdhibpblgaaGreatDoor.Tr
open Go.ChangeShapes Go.WideShapes Go.ChangeAt Go.RowKit Go.PlainAid Aid Nt Nd Cr
set_option linter.unusedVariables false
set_option linter.unusedSimpArgs false
set_option linter.unusedSectionVars false
def putF (gs : Nat) : Value := .func (.func 34) #[] #[.pointer (some ⟨gs, 0, none⟩)]
def refF (g : Nat) : Value := .func (.func 36) #[.pointer (some ⟨g, 0, none⟩)] #[]
set_option maxRecDepth 100000 in
set_option maxHeartbeats 2000000 in
theorem resS {fn : Func} {x : Nat} {tm : Array Value} {w : World} {g : Nat} {a0 a1 a2 a3 a4 a5 a6 a7 : Value} (hf : fn.results = #[.cell x 98]) (hx : tm[x]?.getD undef = .pointer (some ⟨g, 0, none⟩))
    (hB : Blk w g 98 #[a0, a1, a2, a3, a4, a5, a6, a7]) : (results fn tm).run Tryz.prog w = .ok (.agg #[a0, a1, a2, a3, a4, a5, a6, a7]) w := by
  obtain ⟨⟨c0, c1, c2, c3, c4, c5, c6, c7⟩, -⟩ := eight8 hB
  clear hB
  unfold results
  rw [hf]
  simp [go_sem, hx, c0, c1, c2, c3, c4, c5, c6, c7]
set_option maxRecDepth 100000 in
set_option maxHeartbeats 8000000 in
theorem storeS {w : World} {g : Nat} {a0 a1 a2 a3 a4 a5 a6 a7 : Value} (h : Blk w g 98 #[a0, a1, a2, a3, a4, a5, a6, a7]) (bx b0 b1 b2 b5 : Int) (b3 : Bool) (b4 : ByteArray) (A : Option Addr) (m c : Nat) :
    (Instr.storeAt 98 (.pointer (some ⟨g, 0, none⟩)) (.agg #[.int .i64 bx, .int .i64 b0, .int .i64 b1, .int .i64 b2, .bool b3, .string b4, .int .i64 b5, .slice A m c])).run Tryz.prog w =
      .ok () ((((((((w.setCell ⟨g, 0, none⟩ (.int .i64 bx)).setCell ⟨g, 1, none⟩ (.int .i64 b0)).setCell ⟨g, 2, none⟩ (.int .i64 b1)).setCell ⟨g, 3, none⟩ (.int .i64 b2)).setCell ⟨g, 4, none⟩ (.bool b3)).setCell ⟨g, 5, none⟩ (.string b4)).setCell ⟨g, 6, none⟩ (.int .i64 b5)).setCell ⟨g, 7, none⟩ (.slice A m c)) := by
  obtain ⟨⟨d0, d1, d2, d3, d4, d5, d6, d7⟩, f0, f1, f2, f3, f4, f5, f6, f7⟩ := eight8 h
  clear h
  go_simp
theorem own_8' {w0 w : World} {O0 : Nat → Prop} {A : Asn} {g : Nat} {T : TypeId} {x a0 a1 a2 a3 a4 a5 a6 : Value} (h : Own w0 O0 w (Asn.blk g T #[x, a0, a1, a2, a3, a4, a5, a6] * A)) (bx b0 b1 b2 b3 b4 b5 b6 : Value) :
    Own w0 O0 ((((((((w.setCell ⟨g, 0, none⟩ bx).setCell ⟨g, 1, none⟩ b0).setCell ⟨g, 2, none⟩ b1).setCell ⟨g, 3, none⟩ b2).setCell ⟨g, 4, none⟩ b3).setCell ⟨g, 5, none⟩ b4).setCell ⟨g, 6, none⟩ b5).setCell ⟨g, 7, none⟩ b6) (Asn.blk g T #[bx, b0, b1, b2, b3, b4, b5, b6] * A) :=
  own_8 (set_l h 0 bx #[bx, a0, a1, a2, a3, a4, a5, a6] rfl) b0 b1 b2 b3 b4 b5 b6
set_option maxRecDepth 100000 in
set_option maxHeartbeats 4000000 in
theorem put1_any (gs : Nat) (x st st0 : Int) (nd : Nod) (A0 : Option Addr) (m0 c0 : Nat) (w : World) (hc : w.cell? ⟨gs, 0, none⟩ = some (.int .i64 st)) (hl : gs < w.heap.size) :
    Calls Tryz.prog 34 #[.agg (shZ x (restamp nd st0) (.slice A0 m0 c0)), .pointer (some ⟨gs, 0, none⟩)] w fun e w' => e = .returned (.agg (shZ x (restamp nd st) (.slice A0 m0 c0))) ∧ Below w.heap.size w w' := by
  unfold shZ restamp
  dsimp only
  generalize ofL nd.high = zh at *
  have S := Lib.hid ((Own.none w).alloc #[.int .i64 x, .int .i64 nd.tree, .int .i64 nd.level, .int .i64 st0, .bool nd.has, .string zh, .int .i64 nd.right, .slice A0 m0 c0] 53)
  have hsz : (w.alloc (.cells #[.int .i64 x, .int .i64 nd.tree, .int .i64 nd.level, .int .i64 st0, .bool nd.has, .string zh, .int .i64 nd.right, .slice A0 m0 c0] 53)).heap.size = w.heap.size + 1 := by simp
  have S2 := S.out.alloc #[.int .i64 0, .int .i64 0, .int .i64 0, .int .i64 0, .bool false, .string ⟨#[]⟩, .int .i64 0, .slice none 0 0] 98
  rw [hsz] at S2
  have S3 := Lib.hid S2
  have c1 := (bcell S2.bel).1 _ 0 hl
  rw [hc] at c1
  clear S S2 hsz hc
  go_enter Tryz.func34, Tryz.ntmps34
  go_upto_region 1 with fail
  obtain ⟨gc, hgz⟩ : ∃ g, g = w.heap.size := ⟨_, rfl⟩
  rw [← hgz] at S3 ⊢
  clear hgz
  generalize World.alloc (World.alloc w _) _ = w2 at *
  obtain ⟨⟨k0, k1, k2, k3, k4, k5, k6, k7⟩, -, -, -, f3, -⟩ := eight8 (S3.out.has (Has.r (Has.l (has_blk _ _ _))))
  go_upto_region 2 with fail
  have S4 := Lib.hid (S3.out.set (Sets.r (Sets.l (sets_blk gc 53 _ 3 (.int .i64 st)))))
  clear S3 k0 k1 k2 k3 k4 k5 k6 k7 f3 c1
  generalize World.setCell w2 _ _ = w3 at *
  obtain ⟨⟨k0, k1, k2, k3, k4, k5, k6, k7⟩, -⟩ := eight8 (S4.out.has (Has.r (Has.l (has_blk _ _ _))))
  have HST := Lib.hid (storeS (S4.out.has (Has.l (has_blk _ _ _))) x nd.tree nd.level st nd.right nd.has zh A0 m0 c0)
  have S5 := Lib.hid (own_8' S4.out (.int .i64 x) (.int .i64 nd.tree) (.int .i64 nd.level) (.int .i64 st) (.bool nd.has) (.string zh) (.int .i64 nd.right) (.slice A0 m0 c0))
  clear S4
  go_wp2_with (with_reducible refine step_store rfl rfl (.tmp 3) (.tmp 11) 98 rfl (.pointer (some ⟨gc + 1, 0, none⟩)) (.agg #[.int .i64 x, .int .i64 nd.tree, .int .i64 nd.level, .int .i64 st, .bool nd.has, .string zh, .int .i64 nd.right, .slice A0 m0 c0]) ?c1 ?c2 _ HST.out ?_)
  try (case c1 => rfl)
  try (case c2 => rfl)
  exact bodyPost_ret (resS rfl rfl (S5.out.has (Has.l (has_blk _ _ _)))) rfl ⟨rfl, S5.out.bel⟩
theorem row_cells {w : World} {g : Nat} {T : TypeId} {cs : Array Value} (h : Blk w g T cs) : ∀ j u, cs.toList[j]? = some u → w.cell? ((⟨g, 0, none⟩ : Addr).add j) = some u := by
  intro j u hu
  rw [addr_zero, h.cell]
  simpa using hu
set_option maxRecDepth 100000 in
set_option maxHeartbeats 4000000 in
theorem each_put (gs b cb : Nat) (x st st0 : Int) (nd : Nod) (A0 : Option Addr) (m0 c0 : Nat) (w : World) (hb : Blk w b 53 (shZ x (restamp nd st0) (.slice A0 m0 c0))) (hs : Blk w gs 3 #[.int .i64 st]) :
    Calls Tryz.prog 33 #[.slice (some ⟨b, 0, none⟩) 1 cb, putF gs] w fun e w' => ∃ p, e = .returned p ∧ Own w No w' (Asn.vec 98 8 p 1 (shZ x (restamp nd st) (.slice A0 m0 c0)).toList) := by
  have S := Lib.hid ((Own.none w).nilVec 98 8)
  have HT := Lib.hid (fun W (hB : Below w.heap.size w W) => put1_any gs x st st0 nd A0 m0 c0 W ((hs.keepB hB).cell 0) (hs.keepB hB).lt)
  have HB := Lib.hid (fun W (hB : Below w.heap.size w W) => (eight8 (hb.keepB hB)).1)
  clear hb hs
  unfold putF shZ restamp at *
  dsimp only at *
  generalize ofL nd.high = zh at *
  go_enter Tryz.func33, Tryz.ntmps33
  go_wp2_with fail
  go_loopw [5, 7, 10] (fun all _ i wr => ∃ k : Nat, i = .int .i64 k ∧ k ≤ 1 ∧ Hid (Own w No wr (Asn.vec 98 8 all k (List.take (k * 8) [.int .i64 x, .int .i64 nd.tree, .int .i64 nd.level, .int .i64 st, .bool nd.has, .string zh, .int .i64 nd.right, .slice A0 m0 c0]) * Asn.emp))) (fun _ _ i _ => 1 - (intOf i).toNat)
  case atStart => exact ⟨0, rfl, Nat.zero_le _, S⟩
  case round =>
    clear S
    obtain ⟨k, rfl, hk, S⟩ := hrel
    obtain ⟨A1, c1, rfl⟩ := S.out.vec.slice
    by_cases hlt : k < 1
    · obtain rfl : k = 0 := by omega
      obtain ⟨k0, k1, k2, k3, k4, k5, k6, k7⟩ := HB.out _ S.out.bel
      have S1 := Lib.hid (S.out.alloc #[.int .i64 x, .int .i64 nd.tree, .int .i64 nd.level, .int .i64 st0, .bool nd.has, .string zh, .int .i64 nd.right, .slice A0 m0 c0] 53).right
      clear S
      go_wp2_with fail
      refine (HT.out _ S1.out.bel).mono ?_
      rintro e w2 ⟨rfl, hX⟩
      have S2 := Lib.hid (S1.out.below hX)
      clear hX S1 k0 k1 k2 k3 k4 k5 k6 k7
      have S3 := Lib.hid (S2.out.alloc #[.int .i64 x, .int .i64 nd.tree, .int .i64 nd.level, .int .i64 st, .bool nd.has, .string zh, .int .i64 nd.right, .slice A0 m0 c0] 98).right
      have CX : Hid (Src Tryz.prog 8 95 (.slice (some ⟨w2.heap.size, 0, none⟩) 1 1) 1 [.int .i64 x, .int .i64 nd.tree, .int .i64 nd.level, .int .i64 st, .bool nd.has, .string zh, .int .i64 nd.right, .slice A0 m0 c0] (w2.alloc (.cells #[.int .i64 x, .int .i64 nd.tree, .int .i64 nd.level, .int .i64 st, .bool nd.has, .string zh, .int .i64 nd.right, .slice A0 m0 c0] 98))) := Lib.hid (Src.ofSlice _ Tryz.underlying95 _ 1 1 _ rfl (row_cells (Blk.new w2 #[.int .i64 x, .int .i64 nd.tree, .int .i64 nd.level, .int .i64 st, .bool nd.has, .string zh, .int .i64 nd.right, .slice A0 m0 c0] 98)) (by intro u hu; simp at hu; rcases hu with rfl | rfl | rfl | rfl | rfl | rfl | rfl | rfl <;> rfl))
      clear S2
      go_wp2_with (with_reducible refine wpList_append_vec rfl (.tmp 14) (.tmp 18) 95 95 rfl 98 _ 8 88 Tryz.underlying95 info_sheet ?c1 ?c2 _ 0 [] ?c7 S3.out.vec (.slice (some ⟨w2.heap.size, 0, none⟩) 1 1) ?c8 1 _ CX.out ?c3 ?c4 ?_)
      case c1 => rfl
      case c2 => decide
      case c3 => unfold maxLen; omega
      case c4 => omega
      case c7 => rfl
      case c8 => rfl
      intro v' w3 hv hc hf
      have S4 := Lib.hid (S3.out.app hv hc hf)
      obtain ⟨A', c', rfl⟩ := hv.slice
      clear S3 CX hv hc hf
      go_wp2_with fail
      go_roundw
      case rel => exact ⟨1, rfl, Nat.le_refl _, S4⟩
      case measure => simp [intOf]
    · obtain rfl : k = 1 := by omega
      go_wp2_with fail
      go_returns
      exact ⟨_, rfl, S.out.left⟩
def ixI (r : Bool) : Int := if r then 0 else -1
section
variable (n g gd gl m b : Nat) (hv ov : Value) (H : List Sh) (D : List Db) (P : Nat → Sl.Pg)
set_option maxRecDepth 100000 in
set_option maxHeartbeats 4000000 in
theorem index_one (x : Int) (nd : Nod) (A0 : Option Addr) (m0 c0 : Nat) (sv : Value) (w0 w : World) (C : Asn) (hr : Row3 w (.slice A0 m0 c0) nd.list) (hs : Vec w 98 8 sv 1 (shZ x nd (.slice A0 m0 c0)).toList) (hS : Own w0 No w (aTr g gd gl hv ov H D * (Sl.aDk gd m b n P * (Mn.aMn m Rl.idle * C)))) :
    Calls Tryz.prog 70 #[sv, refF g] w fun e w' => e = .returned (.int .i64 (ixI (nay n x nd))) ∧ Below w.heap.size w w' := by
  obtain ⟨bo, cs, rfl⟩ : ∃ b c, sv = .slice (some ⟨b, 0, none⟩) 1 c := by
    rcases hs.forms with ⟨-, hz⟩ | ⟨g, cap, he, -⟩
    · omega
    · exact ⟨_, _, he⟩
  have HR := Lib.hid (fun W (hB : Below w.heap.size w W) => refuses_any n g gd gl m b hv ov H D P x nd (.slice A0 m0 c0) w0 W C (hr.keep hB) (hS.below hB))
  have HV := Lib.hid (fun W (hB : Below w.heap.size w W) => hs.keepB hB)
  have B0 : Hid (Below w.heap.size w w) := Lib.hid (Below.refl _ _)
  clear hr hs hS
  unfold refF shZ tPtr at *
  dsimp only at *
  generalize ofL nd.high = zh at *
  go_enter Tryz.func70, Tryz.ntmps70
  go_wp2_with fail
  go_loopw [5, 8] (fun _ i wr => ∃ k : Nat, i = .int .i64 k ∧ k ≤ 1 ∧ Hid (k = 1 → nay n x nd = false) ∧ Hid (Below w.heap.size w wr)) (fun _ i _ => 1 - (intOf i).toNat)
  case atStart => exact ⟨0, rfl, Nat.zero_le _, Lib.hid (fun h => absurd h (by decide)), B0⟩
  case round =>
    clear B0
    obtain ⟨k, rfl, hk, hN, hB⟩ := hrel
    by_cases hlt : k < 1
    · obtain rfl : k = 0 := by omega
      have hv' := HV.out _ hB.out
      have q0 : wr.cell? ⟨bo, 0, none⟩ = some (.int .i64 x) := hv'.cell rfl
      have q1 : wr.cell? ⟨bo, 1, none⟩ = some (.int .i64 nd.tree) := hv'.cell rfl
      have q2 : wr.cell? ⟨bo, 2, none⟩ = some (.int .i64 nd.level) := hv'.cell rfl
      have q3 : wr.cell? ⟨bo, 3, none⟩ = some (.int .i64 nd.stamp) := hv'.cell rfl
      have q4 : wr.cell? ⟨bo, 4, none⟩ = some (.bool nd.has) := hv'.cell rfl
      have q5 : wr.cell? ⟨bo, 5, none⟩ = some (.string zh) := hv'.cell rfl
      have q6 : wr.cell? ⟨bo, 6, none⟩ = some (.int .i64 nd.right) := hv'.cell rfl
      have q7 : wr.cell? ⟨bo, 7, none⟩ = some (.slice A0 m0 c0) := hv'.cell rfl
      clear hv'
      go_wp2_with fail
      refine (HR.out _ hB.out).mono ?_
      rintro e w2 ⟨rfl, hX⟩
      have B1 := Lib.hid (bl hB.out hX)
      clear hX hB HR q0 q1 q2 q3 q4 q5 q6 q7 hN
      cases hn : nay n x nd with
      | true =>
        have HN := Lib.hid hn
        clear hn
        go_wp2_with fail
        go_returns
        exact ⟨by rw [HN.out]; rfl, B1.out⟩
      | false =>
        have HN := Lib.hid hn
        clear hn
        go_wp2_with fail
        go_roundw
        case rel => exact ⟨1, rfl, Nat.le_refl _, Lib.hid (fun _ => HN.out), B1⟩
        case measure => simp [intOf]
    · obtain rfl : k = 1 := by omega
      go_wp2_with fail
      go_returns
      exact ⟨by rw [hN.out trivial]; rfl, hB.out⟩
set_option maxHeartbeats 1000000 in
theorem contains_one (x : Int) (nd : Nod) (A0 : Option Addr) (m0 c0 : Nat) (sv : Value) (w0 w : World) (C : Asn) (hr : Row3 w (.slice A0 m0 c0) nd.list) (hs : Vec w 98 8 sv 1 (shZ x nd (.slice A0 m0 c0)).toList) (hS : Own w0 No w (aTr g gd gl hv ov H D * (Sl.aDk gd m b n P * (Mn.aMn m Rl.idle * C)))) :
    Calls Tryz.prog 35 #[sv, refF g] w fun e w' => e = .returned (.bool (nay n x nd)) ∧ Below w.heap.size w w' := by
  obtain ⟨AS, cs, rfl⟩ := hs.slice
  have HI := Lib.hid (index_one n g gd gl m b hv ov H D P x nd A0 m0 c0 _ w0 w C hr hs hS)
  clear hr hs hS
  unfold refF at *
  cases hn : nay n x nd with
  | true =>
    have e : ixI (nay n x nd) = 0 := by rw [hn]; rfl
    rw [e] at HI
    clear hn e
    go_enter Tryz.func35, Tryz.ntmps35
    go_wp2_with fail
    refine HI.out.mono ?_
    rintro e w2 ⟨rfl, hX⟩
    go_wp2_with fail
    go_returns
    exact ⟨rfl, hX⟩
  | false =>
    have e : ixI (nay n x nd) = -1 := by rw [hn]; rfl
    rw [e] at HI
    clear hn e
    go_enter Tryz.func35, Tryz.ntmps35
    go_wp2_with fail
    refine HI.out.mono ?_
    rintro e w2 ⟨rfl, hX⟩
    go_wp2_with fail
    go_returns
    exact ⟨rfl, hX⟩
theorem nay_yes (x : Int) (nd : Nod) (hy : nay n x nd = false) : ∃ p : Nat, x = p ∧ p < n ∧ fitsB nd = true := by
  unfold nay at hy
  simp only [Bool.not_eq_false', Bool.and_eq_true, decide_eq_true_eq] at hy
  exact ⟨x.toNat, by omega, by omega, hy.2⟩
set_option maxHeartbeats 1000000 in
/-- A stamp that there can't be. -/
theorem put_arg (st : Int) (hst : st < 1 ∨ 2147483647 < st) (v : Value) (w : World) :
    Calls Tryz.prog 9 #[tPtr g, .int .i64 st, v] w fun e w' => e = .returned (.int .i64 1) ∧ Below w.heap.size w w' := by
  have S := Lib.hid ((Own.none w).alloc #[.int .i64 st] 3)
  unfold tPtr
  by_cases h1 : st < 1
  · clear hst
    go_enter Tryz.func9, Tryz.ntmps9
    go_wp2_with fail
    go_returns
    exact ⟨rfl, S.out.bel⟩
  · have h2 : 2147483647 < st := by omega
    clear hst
    go_enter Tryz.func9, Tryz.ntmps9
    go_wp2_with fail
    go_returns
    exact ⟨rfl, S.out.bel⟩
variable (hn : n ≤ 256) (h : Nat → Option Sh) (hh : OkS h) (d : Nat → Option Db) (ho : OkD d)
include hn hh ho
set_option maxRecDepth 100000 in
set_option maxHeartbeats 4000000 in
theorem put_bad (st : Nat) (h1 : 1 ≤ st) (h2 : st ≤ 2147483647) (bx cb : Nat) (x : Int) (nd : Nod) (pv : Value) (hy : nay n x (restamp nd st) = true) (w0 w : World) (C : Asn) (hr : Row3 w pv nd.list) (hb : Blk w bx 53 (shZ x nd pv)) (hS : Own w0 No w (aTr g gd gl hv ov (lst h n) (lst d n) * (Sl.aDk gd m b n P * (Mn.aMn m Rl.idle * C)))) :
    Calls Tryz.prog 9 #[tPtr g, .int .i64 st, .slice (some ⟨bx, 0, none⟩) 1 cb] w fun e w' => e = .returned (.int .i64 1) ∧ Own w0 No w' (aTr g gd gl hv ov (lst h n) (lst d n) * (Sl.aDk gd m b n P * (Mn.aMn m Rl.idle * C))) := by
  obtain ⟨A0, c0, rfl⟩ := hr.slice
  have hb9 : Below w.heap.size w (w.alloc (.cells #[.int .i64 st] 3)) := blA (Below.refl _ _) _
  have HE := Lib.hid (each_put w.heap.size bx cb x st nd.stamp nd A0 nd.list.length c0 _ (hb.keepB hb9) (Blk.new w #[.int .i64 st] 3))
  have S := Lib.hid (hS.alloc #[.int .i64 st] 3)
  have HC := Lib.hid (fun sv W C h1 h2 h3 => contains_one n g gd gl m b hv ov (lst h n) (lst d n) P x (restamp nd st) A0 nd.list.length c0 sv w0 W C h1 h2 h3)
  rw [hy] at HC
  have HR := Lib.hid (fun W (hB : Below w.heap.size w W) => hr.keep hB)
  have hmf : ∀ (fn : Fn) (first cap : Array Value) (w : World), (Instr.makeFunc fn first cap).run Tryz.prog w = .ok (.func fn first cap) w := fun _ _ _ _ => rfl
  have i1 : ¬ (st : Int) < 1 := by omega
  have i2 : ¬ (2147483647 : Int) < st := by omega
  have HB9 := Lib.hid hb9
  unfold putF refF tPtr at *
  clear hr hb hS hb9
  go_enter Tryz.func9, Tryz.ntmps9
  go_wp2_with fail
  refine HE.out.mono ?_
  rintro e w2 ⟨sv, rfl, hX⟩
  have B2 := Lib.hid (bl HB9.out hX.bel)
  have S2 := Lib.hid (own_join S.out hX)
  obtain ⟨AS, cS, rfl⟩ := hX.addEmp.vec.slice
  clear hX S HE
  go_wp2_with fail
  refine (HC.out _ _ _ (HR.out _ B2.out) S2.out.vec (S2.out.right.right.re rfl)).mono ?_
  rintro e w3 ⟨rfl, hX⟩
  have S3 := Lib.hid (S2.out.below hX)
  clear hX S2 HC
  go_wp2_with fail
  go_returns
  exact ⟨rfl, S3.out.right.right⟩
set_option maxRecDepth 100000 in
set_option maxHeartbeats 4000000 in
theorem put_ok (st : Nat) (h1 : 1 ≤ st) (h2 : st ≤ 2147483647) (bx cb p : Nat) (nd : Nod) (pv : Value) (hp : p < n) (hf : fitsB (restamp nd st) = true) (hl : nd.list.length ≤ 100000) (w0 w : World) (C : Asn) (hr : Row3 w pv nd.list) (hb : Blk w bx 53 (shZ p nd pv)) (hS : Own w0 No w (aTr g gd gl hv ov (lst h n) (lst d n) * (Sl.aDk gd m b n P * (Mn.aMn m Rl.idle * C)))) :
    Calls Tryz.prog 9 #[tPtr g, .int .i64 st, .slice (some ⟨bx, 0, none⟩) 1 cb] w fun e w' => ∃ q : Value × Value × Value, e = .returned (.int .i64 0) ∧
      Own w0 No w' (aTr g gd gl q.1 q.2.1 (lst (put h p (some ⟨p, restamp nd st, q.2.2⟩)) n) (lst (owed d p st) n) * (Sl.aDk gd m b n P * (Mn.aMn m Rl.idle * C))) := by
  obtain ⟨A0, c0, rfl⟩ := hr.slice
  have hb9 : Below w.heap.size w (w.alloc (.cells #[.int .i64 st] 3)) := blA (Below.refl _ _) _
  have HE := Lib.hid (each_put w.heap.size bx cb p st nd.stamp nd A0 nd.list.length c0 _ (hb.keepB hb9) (Blk.new w #[.int .i64 st] 3))
  have S := Lib.hid (hS.alloc #[.int .i64 st] 3)
  have HC := Lib.hid (fun sv W C h1 h2 h3 => contains_one n g gd gl m b hv ov (lst h n) (lst d n) P p (restamp nd st) A0 nd.list.length c0 sv w0 W C h1 h2 h3)
  have hy : nay n p (restamp nd st) = false := by
    unfold nay
    rw [decide_eq_true (by omega : (0 : Int) ≤ p), decide_eq_true (by omega : (p : Int) < n), hf]; rfl
  rw [hy] at HC
  have HR := Lib.hid (fun W (hB : Below w.heap.size w W) => hr.keep hB)
  have HT := Lib.hid (fun W C hr' h' => take_any n g gd gl hn hv ov h hh d ho p hp (restamp nd st) st rfl (.slice A0 nd.list.length c0) hl w0 W C hr' h')
  have hmf : ∀ (fn : Fn) (first cap : Array Value) (w : World), (Instr.makeFunc fn first cap).run Tryz.prog w = .ok (.func fn first cap) w := fun _ _ _ _ => rfl
  have i1 : ¬ (st : Int) < 1 := by omega
  have i2 : ¬ (2147483647 : Int) < st := by omega
  have HB9 := Lib.hid hb9
  unfold putF refF tPtr shZ shV restamp at *
  dsimp only at *
  clear hr hb hS hb9 hy hf
  go_enter Tryz.func9, Tryz.ntmps9
  go_wp2_with fail
  refine HE.out.mono ?_
  rintro e w2 ⟨sv, rfl, hX⟩
  have B2 := Lib.hid (bl HB9.out hX.bel)
  have S2 := Lib.hid (own_join S.out hX)
  obtain ⟨bs, cS, rfl⟩ : ∃ b c, sv = .slice (some ⟨b, 0, none⟩) 1 c := by
    rcases S2.out.vec.forms with ⟨-, hz⟩ | ⟨g, cap, he, -⟩
    · omega
    · exact ⟨_, _, he⟩
  clear hX S HE
  go_wp2_with fail
  refine (HC.out _ _ _ (HR.out _ B2.out) S2.out.vec (S2.out.right.right.re rfl)).mono ?_
  rintro e w3 ⟨rfl, hX⟩
  have S3 := Lib.hid (S2.out.below hX)
  have B3 := Lib.hid (bl B2.out hX)
  clear hX S2 HC B2
  go_wp2_with fail
  go_loopw [9, 27] (fun _ i wr => ∃ k : Nat, i = .int .i64 k ∧ ((k = 0 ∧ Hid (Below w.heap.size w wr) ∧ Hid (Vec wr 98 8 (.slice (some ⟨bs, 0, none⟩) 1 cS) 1 [.int .i64 p, .int .i64 nd.tree, .int .i64 nd.level, .int .i64 st, .bool nd.has, .string (ofL nd.high), .int .i64 nd.right, .slice A0 nd.list.length c0]) ∧ Hid (Own w0 No wr (aTr g gd gl hv ov (lst h n) (lst d n) * (Sl.aDk gd m b n P * (Mn.aMn m Rl.idle * C))))) ∨ (k = 1 ∧ ∃ q : Value × Value × Value, Hid (Own w0 No wr (aTr g gd gl q.1 q.2.1 (lst (put h p (some ⟨p, ⟨nd.tree, nd.level, (st : Int), nd.has, nd.high, nd.right, nd.list⟩, q.2.2⟩)) n) (lst (owed d p st) n) * (Sl.aDk gd m b n P * (Mn.aMn m Rl.idle * C))))))) (fun _ i _ => 1 - (intOf i).toNat)
  case atStart => exact ⟨0, rfl, Or.inl ⟨rfl, B3, Lib.hid S3.out.vec, Lib.hid S3.out.right.right⟩⟩
  case round =>
    clear S3 B3
    obtain ⟨k, rfl, ⟨rfl, hB, hV, S⟩ | ⟨rfl, q, S⟩⟩ := hrel
    · have hv' := hV.out
      have q0 : wr.cell? ⟨bs, 0, none⟩ = some (.int .i64 p) := hv'.cell rfl
      have q1 : wr.cell? ⟨bs, 1, none⟩ = some (.int .i64 nd.tree) := hv'.cell rfl
      have q2 : wr.cell? ⟨bs, 2, none⟩ = some (.int .i64 nd.level) := hv'.cell rfl
      have q3 : wr.cell? ⟨bs, 3, none⟩ = some (.int .i64 st) := hv'.cell rfl
      have q4 : wr.cell? ⟨bs, 4, none⟩ = some (.bool nd.has) := hv'.cell rfl
      have q5 : wr.cell? ⟨bs, 5, none⟩ = some (.string (ofL nd.high)) := hv'.cell rfl
      have q6 : wr.cell? ⟨bs, 6, none⟩ = some (.int .i64 nd.right) := hv'.cell rfl
      have q7 : wr.cell? ⟨bs, 7, none⟩ = some (.slice A0 nd.list.length c0) := hv'.cell rfl
      clear hv' hV
      have S4 := Lib.hid (S.out.alloc #[.int .i64 p, .int .i64 nd.tree, .int .i64 nd.level, .int .i64 st, .bool nd.has, .string (ofL nd.high), .int .i64 nd.right, .slice A0 nd.list.length c0] 98).right
      have B4 := Lib.hid (bl hB.out (blA (Below.refl _ _) (.cells #[.int .i64 p, .int .i64 nd.tree, .int .i64 nd.level, .int .i64 st, .bool nd.has, .string (ofL nd.high), .int .i64 nd.right, .slice A0 nd.list.length c0] 98)))
      clear S hB
      go_wp2_with fail
      refine (HT.out _ _ (HR.out _ B4.out) S4.out).mono ?_
      rintro e w5 ⟨q, rfl, hX⟩
      have S5 := Lib.hid hX
      clear hX S4 B4 HT HR q0 q1 q2 q3 q4 q5 q6 q7
      go_wp2_with fail
      go_roundw
      case rel => exact ⟨1, rfl, Or.inr ⟨rfl, q, S5⟩⟩
      case measure => simp [intOf]
    · go_wp2_with fail
      go_returns
      exact ⟨q, rfl, S.out⟩
end
end Go.Proofs.YtapdpdhibpblgaaGreatDoor.Tr
end

-- joined
section
namespace Go.Proofs.YtapdpdhibpblgaaGreatDoor.Aid
open Go.ChangeShapes Go.WideShapes Go.ChangeAt Go.RowKit Go.PlainAid
set_option linter.unusedVariables false
section
variable {P : Program}
/-- append, as a step of a region that draws its order: s a row that something owns. -/
theorem step_append_vec {ops : Array Oper} {o : Oper} {a : Act} {K : Act → World → Prop} {Q : Exit → Act → World → Prop} {E : Prop} {w : World} (hgd : o.guard = none) (s x : Operand) (t tx : TypeId)
    (ho : o.op = .call { callee := .builtin .append, args := #[s, x], argTypes := #[t, tx] })
    (e : TypeId) (z : Value) (size bytes : Nat) (ht : P.underlying t = some (.slice e)) (hinfo : (P.info? e).map (fun i => (i.zero, i.size, i.bytes)) = some (some z, size, bytes)) (hzs : z.cells.size = size) (hsz : 0 < size)
    (v : Value) (n : Nat) (xs : List Value) (hs : a.eval s = v) (hown : Vec w e size v n xs) (xv : Value) (hx : a.eval x = xv) (m : Nat) (news : List Value) (hsrc : Src P size tx xv m news w)
    (h63 : n + m ≤ maxLen) (hbytes : (n + m) * bytes ≤ 140737488355328)
    (h : ∀ v' w', Vec w' e size v' (n + m) (xs ++ news) → Chg (VB v) w w' → Fresh w (VB v) (VB v') → K (a.put o.dst v') w') :
    if Region.wanted o (yielded ops a.tmps) = true then Oper.wp P o a w K Q else E := by
  have hw : Region.wanted o (yielded ops a.tmps) = true := by simp [Region.wanted, hgd]
  rw [if_pos hw]
  obtain ⟨i, hi, hzz⟩ := Option.map_eq_some_iff.1 hinfo
  simp only [Prod.mk.injEq] at hzz
  obtain ⟨hz, rfl, rfl⟩ := hzz
  obtain ⟨v', w', hr, h2, h3, h4⟩ := run_append_vec (P := P) w t tx o.type e i z ht hi hz hzs hsz v n xs hown xv m news hsrc h63 hbytes
  unfold Oper.wp execOp
  simp only [ho, resolve, invoke, builtin, Sem.run_bind, Sem.run_pure, Result.andThen_ok, List.map_toArray, List.map_cons, List.map_nil, hs, hx, hr]
  exact h v' w' h2 h3 h4
end
section
variable {w0 w w' : World} {O0 : Nat → Prop} {A B C : Asn}
theorem own_front (h : Own w0 O0 w (A * (B * C))) : Own w0 O0 w (B * (A * C)) := (h.assoc'.imp (Imp.l (fun _ _ => sep_comm))).assoc
end
/-- Bytes that a conversion made, owned. -/
def aRaw (g : Nat) (l : List UInt8) : Asn :=
  ⟨fun w O => Bytes w g l ∧ ∀ k, O k ↔ k = g, fun w O h k hk => by rw [(h.2 k).1 hk]; exact h.1.1, fun w w' O S h hc hS =>
    ⟨⟨Nat.lt_of_lt_of_le h.1.1 hc.size, fun i x hx => by rw [hc.cell h.1.1 (hS g ((h.2 g).2 rfl))]; exact h.1.2.1 i x hx, fun i hi => by rw [hc.frozen h.1.1 (hS g ((h.2 g).2 rfl))]; exact h.1.2.2 i hi⟩, h.2⟩⟩
/-- Which bytes lie in a block. -/
def Raws (A : Asn) (g : Nat) (l : List UInt8) : Prop := ∀ w O, A.P w O → Bytes w g l
theorem raws_raw (g : Nat) (l : List UInt8) : Raws (aRaw g l) g l := fun _ _ h => h.1
theorem Raws.l {A B : Asn} {g : Nat} {l : List UInt8} (h : Raws A g l) : Raws (A * B) g l := fun w O ⟨X, Y, hA, _⟩ => h w X hA
theorem Raws.r {A B : Asn} {g : Nat} {l : List UInt8} (h : Raws B g l) : Raws (A * B) g l := fun w O ⟨X, Y, _, hA, _⟩ => h w Y hA
section
variable {w0 w w' : World} {O0 : Nat → Prop} {A : Asn} {g : Nat} {l : List UInt8}
theorem raw_new (h : Own w0 O0 w A) (hb : Below w.heap.size w w') (hB : Bytes w' w.heap.size l) : Own w0 O0 w' (aRaw w.heap.size l * A) := by
  refine h.then fun O hO => ?_
  have h2 : Own w (fun _ => False) w' (aRaw w.heap.size l) := ⟨⟨(· = w.heap.size), ⟨hB, fun _ => Iff.rfl⟩, fun k hk => Or.inr (by rw [hk]; exact Nat.le_refl _)⟩, Chg.of_below hb⟩
  exact h2.frame hO (fun _ h => h.elim) (fun k => by simp)
theorem Own.raws (h : Own w0 O0 w A) (t : Raws A g l) : Bytes w g l := by
  obtain ⟨O, hA, -⟩ := h.ex
  exact t w O hA
theorem src_raw {P : Program} {tx e : TypeId} (ht : P.underlying tx = some (.slice e)) (h : Bytes w g l) (cap n : Nat) (hn : l.length = n) : Src P 1 tx (.slice (some ⟨g, 0, none⟩) n cap) n (Lib.byteCells l) w :=
  Src.ofSlice _ ht _ n cap _ (by rw [Lib.byteCells, List.length_map, hn, Nat.mul_one]) (fun j u hu => by
    rw [addr_zero]
    simp only [Lib.byteCells, List.getElem?_map, Option.map_eq_some_iff] at hu
    obtain ⟨x, hx, rfl⟩ := hu
    exact h.2.1 j x hx) (fun u hu => by
    simp only [Lib.byteCells, List.mem_map] at hu
    obtain ⟨x, -, rfl⟩ := hu
    rfl)
end
theorem wpAnyH_weak {P : Program} {md : Region.Mode} {ops : Array Oper} {Q : Exit → Act → World → Prop} {S T : World → Prop} (hST : ∀ w, S w → T w) : ∀ (fuel : Nat) (listed : Array Bool) (a : Act) (w : World), wpAnyH P md ops Q S fuel listed a w → wpAnyH P md ops Q T fuel listed a w
  | 0, _, _, _, h => h
  | fuel + 1, listed, a, w, h => ⟨h.1, fun i hi => wpOp_mono (fun a' w' ⟨h1, h2⟩ => ⟨hST _ h1, wpAnyH_weak hST fuel _ _ _ h2⟩) (h.2 i hi)⟩
end Go.Proofs.YtapdpdhibpblgaaGreatDoor.Aid
end
