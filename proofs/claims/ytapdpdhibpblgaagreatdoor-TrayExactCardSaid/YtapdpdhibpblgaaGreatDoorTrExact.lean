/- TrayExact, walked. -/
import Derived.Test.YtapdpdhibpblgaaGreatDoorTrQ
import Derived.Test.YtapdpdhibpblgaaGreatDoorTrK
import Derived.Test.YtapdpdhibpblgaaGreatDoorTrA
import Derived.Test.YtapdpdhibpblgaaGreatDoorNdM
import Derived.Deep.CutBlock
import Derived.Deep.DeepCutAuto
namespace Go.Proofs.YtapdpdhibpblgaaGreatDoor.Tr
open Go.ChangeShapes Go.WideShapes Go.ChangeAt Go.RowKit Go.PlainAid Aid Nt Nd Cr
set_option linter.unusedVariables false
set_option linter.unusedSimpArgs false
set_option linter.unusedSectionVars false
theorem nay_no (k : Nat) (x : Int) (nd : Nod) (hy : nay k x nd = true) : (x < 0 ∨ (k : Int) ≤ x) ∨ ∃ p : Nat, x = p ∧ p < k ∧ (goodB nd = false ∨ (goodB nd = true ∧ 252 < sizeN nd)) := by
  by_cases h1 : x < 0
  · exact Or.inl (Or.inl h1)
  by_cases h2 : (k : Int) ≤ x
  · exact Or.inl (Or.inr h2)
  refine Or.inr ⟨x.toNat, by omega, by omega, ?_⟩
  unfold nay at hy
  rw [decide_eq_true (show 0 ≤ x by omega), decide_eq_true (show x < (k : Int) by omega)] at hy
  unfold fitsB at hy
  cases hg : goodB nd with
  | false => exact Or.inl rfl
  | true =>
    rw [hg] at hy
    refine Or.inr ⟨rfl, ?_⟩
    simpa using hy
theorem good_size {nd : Nod} (h : goodB nd = true) : sizeN nd ≤ 11120 := by
  have h1 := sizeL_bound nd.list 100 (goods h).vl
  have h2 : (11 + 100) * nd.list.length ≤ 111 * 100 := Nat.mul_le_mul (by decide) (goods h).ll
  unfold sizeN; omega
theorem rps_held (k : Nat) (R : Nat → Rp) (p : Nat) (hp : p < k) (b : Bool) : (rps k R).set (p * 10 + 9) (.bool b) = rps k (Sl.upd R p { R p with held := b }) :=
  rps_set k R p 9 hp (by decide) (.bool b) { R p with held := b } (fun i hi => by
    match i, hi with
    | 0, _ => rfl
    | 1, _ => rfl
    | 2, _ => rfl
    | 3, _ => rfl
    | 4, _ => rfl
    | 5, _ => rfl
    | 6, _ => rfl
    | 7, _ => rfl
    | 8, _ => rfl
    | 9, _ => rfl)
theorem rt_upd (gu gp k : Nat) (R : Nat → Rp) (p : Nat) (hp : p < k) (b : Bool) (C : Asn) : Asn.vec 59 10 (.slice (some ⟨gp, 0, none⟩) k k) k (rps k (Sl.upd R p { R p with held := b })) * (Asn.blk gu 62 #[.slice (some ⟨gp, 0, none⟩) k k] * (aU R k * C)) = aRt gu gp k (Sl.upd R p { R p with held := b }) * C := by
  unfold aRt
  rw [aU_upd R p k hp, aU_at R p k hp]
  unfold aP
  ac_rfl
theorem rt_head (gu gp k : Nat) (R : Nat → Rp) (C : Asn) : aRt gu gp k R * C = Asn.vec 59 10 (.slice (some ⟨gp, 0, none⟩) k k) k (rps k R) * (Asn.blk gu 62 #[.slice (some ⟨gp, 0, none⟩) k k] * (aU R k * C)) := by
  unfold aRt
  ac_rfl
theorem b_act {w0 w : World} {y : Lay} {n : Nat} {v : Vs} {h : Nat → Option Sh} {L : List Rec} {s : W3} {g1 g2 k gx : Nat} {R : Nat → Rp} {cs : Array Value} {C : Asn} (hS : Own w0 No w (aB y n v h L s (Asn.blk y.gb 42 (bRow y) * (Asn.blk gx 33 cs * (aRt g1 g2 k R * C))))) : Blk w gx 33 cs :=
  hS.right.right.right.right.right.has (Has.l (has_blk _ _ _))
theorem b_top {w0 w : World} {y : Lay} {n : Nat} {v : Vs} {h : Nat → Option Sh} {L : List Rec} {s : W3} {g1 g2 k gx : Nat} {R : Nat → Rp} {cs : Array Value} {C : Asn} (hS : Own w0 No w (aB y n v h L s (Asn.blk y.gb 42 (bRow y) * (Asn.blk gx 33 cs * (aRt g1 g2 k R * C))))) :
    w.cell? ⟨g1, 0, none⟩ = some (.slice (some ⟨g2, 0, none⟩) k k) ∧ ∀ p j : Nat, p < k → j < 10 → ∀ u, (rpCells (R p))[j]? = some u → w.cell? ⟨g2, p * 10 + j, none⟩ = some u := by
  have h1 := hS.right.right.right.right.right.right
  rw [rt_head] at h1
  refine ⟨(h1.right.has (Has.l (has_blk _ _ _))).cell 0, fun p j hp hj u hu => h1.vec.cell ?_⟩
  rw [rps_at k R p j hp hj]
  exact hu
theorem b_all {w0 w : World} {y : Lay} {n : Nat} {v : Vs} {h : Nat → Option Sh} {L : List Rec} {s : W3} {g1 g2 k gx : Nat} {R : Nat → Rp} {a0 a1 a2 a3 a4 a5 a6 a7 a8 : Value} {C : Asn} (hS : Own w0 No w (aB y n v h L s (Asn.blk y.gb 42 (bRow y) * (Asn.blk gx 33 #[a0, a1, a2, a3, a4, a5, a6, a7, a8] * (aRt g1 g2 k R * C))))) :
    w.cell? ⟨y.gb, 3, none⟩ = some (.pointer (some ⟨y.g, 0, none⟩)) ∧ w.cell? ⟨gx, 1, none⟩ = some a1 ∧ w.cell? ⟨gx, 2, none⟩ = some a2 ∧ w.cell? ⟨gx, 3, none⟩ = some a3 ∧ w.cell? ⟨gx, 4, none⟩ = some a4 ∧ w.cell? ⟨gx, 5, none⟩ = some a5 ∧ w.cell? ⟨gx, 6, none⟩ = some a6 ∧ w.cell? ⟨gx, 7, none⟩ = some a7 ∧ w.cell? ⟨gx, 8, none⟩ = some a8 := by
  have hb := b_act hS
  exact ⟨(b_cells hS).2.2.2, hb.cell 1, hb.cell 2, hb.cell 3, hb.cell 4, hb.cell 5, hb.cell 6, hb.cell 7, hb.cell 8⟩
set_option maxRecDepth 100000 in
set_option maxHeartbeats 4000000 in
theorem run_bs (W : World) (x0 x1 x2 x3 x5 : Int) (b : Bool) (s : ByteArray) (A : Option Addr) (n c : Nat) : (Instr.buildSlice 94 1 #[(0, .agg #[.int .i64 x0, .int .i64 x1, .int .i64 x2, .int .i64 x3, .bool b, .string s, .int .i64 x5, .slice A n c])]).run Tryz.prog W =
    .ok (.slice (some ⟨W.heap.size, 0, none⟩) 1 1) (W.alloc (.cells #[.int .i64 x0, .int .i64 x1, .int .i64 x2, .int .i64 x3, .bool b, .string s, .int .i64 x5, .slice A n c] 53)) := by
  go_simp
theorem step_bs_w {P : Program} {ops : Array Oper} {o : Oper} {a : Act} {K : Act → World → Prop} {Q : Exit → Act → World → Prop} {E : Prop} {w : World} (hw : Region.wanted o (yielded ops a.tmps) = true) (T : TypeId) (x : Operand) (ho : o.op = .buildSlice T 1 #[(0, x)])
    (xv : Value) (hx : a.eval x = xv) (v : Value) (w' : World) (hr : (Instr.buildSlice T 1 #[(0, xv)]).run P w = .ok v w') (h : K (a.put o.dst v) w') : if Region.wanted o (yielded ops a.tmps) = true then Oper.wp P o a w K Q else E := by
  rw [if_pos hw]
  unfold Oper.wp execOp
  subst hx
  simp only [ho, List.map_toArray, List.map_cons, List.map_nil, Sem.run_bind, Sem.run_pure, Result.andThen_ok, hr]
  exact h
set_option maxRecDepth 100000 in
set_option maxHeartbeats 4000000 in
theorem run_ch (W : World) (x0 x1 x2 x3 x5 : Int) (b : Bool) (s : ByteArray) (A : Option Addr) (n c : Nat) : (Instr.build 53 #[(0, .int .i64 x0), (1, .agg #[.int .i64 x1, .int .i64 x2, .int .i64 x3, .bool b, .string s, .int .i64 x5, .slice A n c])]).run Tryz.prog W =
    .ok (.agg #[.int .i64 x0, .int .i64 x1, .int .i64 x2, .int .i64 x3, .bool b, .string s, .int .i64 x5, .slice A n c]) W := by
  go_simp
theorem emp_one (A : Asn) : A * Asn.emp = A := Asn.same fun w O => ⟨fun ⟨X, Y, hA, hX, hd, hO⟩ => by
  have e : X = O := by
    funext j
    exact propext ⟨fun h => (hO j).2 (Or.inl h), fun h => ((hO j).1 h).elim id (fun x => absurd x (hX j))⟩
  exact e ▸ hA, fun h => ⟨O, fun _ => False, h, fun _ => id, fun _ _ h => h.elim, fun _ => by simp⟩⟩
def aB0 (y : Lay) (n : Nat) (v : Vs) (h : Nat → Option Sh) (L : List Rec) (s : W3) : Asn := aB y n v h L s Asn.emp
theorem aB_eq (y : Lay) (n : Nat) (v : Vs) (h : Nat → Option Sh) (L : List Rec) (s : W3) (C : Asn) : aB y n v h L s C = aB0 y n v h L s * C := by
  unfold aB0 aB
  conv => lhs; rw [← emp_one C]
  ac_rfl
theorem list_build2 {P : Program} {ops : Array Oper} {rest : List Oper} {o : Oper} {a : Act} {Q : Exit → Act → World → Prop} {w : World} (hgd : o.guard = none) (T : TypeId) (x y : Operand) (ho : o.op = .build T #[(0, x), (1, y)])
    (xv yv : Value) (hx : a.eval x = xv) (hy : a.eval y = yv) (v : Value) (hr : (Instr.build T #[(0, xv), (1, yv)]).run P w = .ok v w) (h : wpList P ops Q rest (a.put o.dst v) w) : wpList P ops Q (o :: rest) a w := by
  refine wpList_plain hgd fun K hK => ?_
  unfold Oper.wp execOp
  subst hx hy
  simp only [ho, List.map_toArray, List.map_cons, List.map_nil, Sem.run_bind, Sem.run_pure, Result.andThen_ok, hr]
  exact hK _ _ h
theorem b_two {w0 w : World} {y : Lay} {n : Nat} {v : Vs} {h : Nat → Option Sh} {L : List Rec} {s : W3} {g1 g2 k gx : Nat} {R : Nat → Rp} {a0 a1 a2 a3 a4 a5 a6 a7 a8 : Value} {C : Asn} (hS : Own w0 No w (aB y n v h L s (Asn.blk y.gb 42 (bRow y) * (Asn.blk gx 33 #[a0, a1, a2, a3, a4, a5, a6, a7, a8] * (aRt g1 g2 k R * C))))) :
    w.cell? ⟨y.gb, 3, none⟩ = some (.pointer (some ⟨y.g, 0, none⟩)) ∧ w.cell? ⟨gx, 1, none⟩ = some a1 := ⟨(b_all hS).1, (b_all hS).2.1⟩
theorem step_store_w {P : Program} {ops : Array Oper} {o : Oper} {a : Act} {K : Act → World → Prop} {Q : Exit → Act → World → Prop} {E : Prop} {w : World} (hgd : o.guard = none) (hd : o.dst = none) (p x : Operand) (t : TypeId) (ho : o.op = .store t p x)
    (pv xv : Value) (hp : a.eval p = pv) (hx : a.eval x = xv) (w' : World) (hr : (Instr.storeAt t pv xv).run P w = .ok () w') (h : K a w') : if Region.wanted o (yielded ops a.tmps) = true then Oper.wp P o a w K Q else E := by
  rw [if_pos (by simp [Region.wanted, hgd])]
  unfold Oper.wp execOp
  subst hp hx
  simp only [ho, Sem.run_bind, Sem.run_pure, Result.andThen_ok, hr]
  rw [Oper.upon_skip, hd]
  exact h
theorem upd_row {w : World} {k : Nat} {R : Nat → Rp} (HR : ∀ p, p < k → Row3 w (R p).nv (R p).nd.list) (p : Nat) (r : Rp) (e : er r = er (R p) ∨ (r.nv = (R p).nv ∧ r.nd = (R p).nd) ∨ Row3 w r.nv r.nd.list) : ∀ q, q < k → Row3 w (Sl.upd R p r q).nv (Sl.upd R p r q).nd.list := fun q hq => by
  by_cases hqp : q = p
  · subst hqp
    rw [Sl.upd_same]
    rcases e with e | ⟨e1, e2⟩ | e
    · have e1 : r.nv = (R q).nv := by have := congrArg Rp.nv e; exact this
      have e2 : r.nd = (R q).nd := by have := congrArg Rp.nd e; exact this
      rw [e1, e2]; exact HR q hq
    · rw [e1, e2]; exact HR q hq
    · exact e
  · rw [Sl.upd_other _ _ _ _ hqp]; exact HR q hq
set_option maxRecDepth 100000 in
set_option maxHeartbeats 64000000 in
theorem exact_any (n : Int) (A : Option Addr) (m1 c : Nat) (L : List Dn) (w : World) (ht : Tab w) (hm : m1 ≤ maxLen) (x1 : DnRow w A m1 L) :
    Calls Tryz.prog 3 #[.int .i64 n, .slice A m1 c] w fun e w' => e = .returned (.bool true) ∧ Below w.heap.size w w' := by
  obtain ⟨k, hK, hK2⟩ := mod_u n 9 (by decide) (by decide)
  have hk9 : k ≤ 9 := by omega
  unfold maxLen at hm
  have HT := Lib.hid ht
  have X1 := Lib.hid x1
  have HA := Lib.hid (fun w' C (h : Own w No w' C) => awake_any w w' C ht h)
  have HM := Lib.hid (fun w' C (h : Own w No w' C) => made_any k (by omega) w w' C ht h)
  have HN := Lib.hid (fun w' C (h : Own w No w' C) => rNew_any k (by omega) w w' C h)
  have S0 := Lib.hid (Own.none w)
  clear ht x1 hK2
  go_enter Tryz.func3, Tryz.ntmps3
  go_wp2_with fail
  refine (HA.out _ _ S0.out).mono ?_
  rintro e w1 ⟨rfl, hb⟩
  have S1 := Lib.hid (Own.of_below hb)
  clear hb S0 HA
  go_wp2_with fail
  refine (HM.out _ _ S1.out).mono ?_
  rintro e w2 ⟨y, Y, rfl, hX⟩
  have S2 := Lib.hid hX
  clear hX S1 HM
  go_wp2_with fail
  refine (HN.out _ _ S2.out).mono ?_
  rintro e w3 ⟨g1, g2, rfl, hX⟩
  have S3 : Hid (Own w No w3 (aB y k ⟨y.lv, .slice none 0 0, .slice none 0 0⟩ (fun _ => none) (Ls 0) bare3 (Asn.blk y.gb 42 (bRow y) * (aRt g1 g2 k (fun _ => rp0) * Y)))) := Lib.hid (hX.re (by unfold aBn aB; dsimp only; rw [show Ls 0 = [] from rfl]; ac_rfl))
  clear hX S2 HN
  have HG0 := Lib.hid (tie_start k)
  have HR0 : Hid (∀ p, p < k → Row3 w ((fun _ => rp0 : Nat → Rp) p).nv ((fun _ => rp0 : Nat → Rp) p).nd.list) := Lib.hid fun p _ => Row3.nil w
  go_wp2_with fail
  go_loopw [8, 9, 10, 11, 12, 13, 14, 15, 16, 17, 18] (fun p8 _ _ _ _ _ _ _ _ _ _ wr => ∃ (i K : Nat) (v : Vs) (h : Nat → Option Sh) (s : W3) (R : Nat → Rp), p8 = .int .i64 i ∧ i ≤ m1 ∧ i ≤ 40 ∧ K ≤ i ∧ Hid (Tie k i K R h s) ∧ Hid (∀ p, p < k → Row3 w (R p).nv (R p).nd.list) ∧
    Hid (Own w No wr (aB y k v h (Ls K) s (Asn.blk y.gb 42 (bRow y) * (aRt g1 g2 k R * Y))))) (fun p8 _ _ _ _ _ _ _ _ _ _ _ => 41 - (intOf p8).toNat)
  case atStart => exact ⟨0, 0, ⟨y.lv, .slice none 0 0, .slice none 0 0⟩, fun _ => none, bare3, fun _ => rp0, rfl, Nat.zero_le _, Nat.zero_le _, Nat.le_refl _, HG0, HR0, S3⟩
  case round =>
    clear S3 HG0 HR0
    obtain ⟨i, K, v, h, s, R, rfl, hi1, hi2, hKi, HG, HR, S⟩ := hrel
    by_cases hlt : i < m1 ∧ i < 40
    · obtain ⟨hl1, hl2⟩ := hlt
      obtain ⟨x, ba, oa, A1, c1, hx, hx64, rfl, hcells, hrow⟩ := X1.out.at i hl1
      obtain ⟨kd, pg, nd⟩ := x
      dsimp only at hx64 hcells hrow
      obtain ⟨e0, e1, e2, e3, e4, e5, e6, e7, e8⟩ := hcells _ S.out.bel
      have HRow := Lib.hid (fun W (hb : Below w.heap.size w W) => hrow.keep hb)
      have HGr := Lib.hid (fun W (hb : Below w.heap.size w W) => great_list nd (.agg (nodCells nd (.slice A1 nd.list.length c1))) W ⟨_, rfl, hrow.keep hb⟩)
      clear hcells hrow hx
      unfold nodCells at HGr
      have S4 := Lib.hid ((S.out.alloc #[.int .i64 kd, .int .i64 pg, .int .i64 nd.tree, .int .i64 nd.level, .int .i64 nd.stamp, .bool nd.has, .string (ofL nd.high), .int .i64 nd.right, .slice A1 nd.list.length c1] 33).re (show _ = aB y k v h (Ls K) s (Asn.blk y.gb 42 (bRow y) * (Asn.blk wr.heap.size 33 #[.int .i64 kd, .int .i64 pg, .int .i64 nd.tree, .int .i64 nd.level, .int .i64 nd.stamp, .bool nd.has, .string (ofL nd.high), .int .i64 nd.right, .slice A1 nd.list.length c1] * (aRt g1 g2 k R * Y))) by simp only [aB_eq]; ac_rfl))
      clear S
      go_upto_region 12 with fail
      obtain ⟨gx, hgz⟩ : ∃ g, g = wr.heap.size := ⟨_, rfl⟩
      rw [← hgz] at S4 ⊢
      clear hgz e0 e1 e2 e3 e4 e5 e6 e7 e8
      generalize wr.alloc _ = w4 at *
      have hB4 := b_act S4.out
      have k2 := hB4.cell 2
      have k3 := hB4.cell 3
      have k4 := hB4.cell 4
      have k5 := hB4.cell 5
      have k6 := hB4.cell 6
      have k7 := hB4.cell 7
      have k8 := hB4.cell 8
      clear hB4
      go_wp2_with fail
      refine (HGr.out _ S4.out.bel).mono ?_
      rintro e w5 ⟨he, hX⟩
      have S5 := Lib.hid (S4.out.below hX)
      clear hX S4 HGr k2 k3 k4 k5 k6 k7 k8
      rcases he with rfl | ⟨rfl, hll⟩
      · go_wp2_with fail
        go_returns
        exact ⟨rfl, S5.out.bel⟩
      obtain ⟨st, hst⟩ : ∃ st, st = 29 * K + 1 := ⟨_, rfl⟩
      have hst1 : 1 ≤ st := by omega
      have hst2 : st ≤ 2147483647 := by omega
      have HST := Lib.hid hst
      clear hst
      have hB5 := b_act S5.out
      have k0 := hB5.cell 0
      have k1 := hB5.cell 1
      clear hB5
      obtain ⟨isP, hisP⟩ : ∃ b : Bool, b = (decide (0 ≤ pg) && decide (pg < (k : Int))) := ⟨_, rfl⟩
      have HIS := Lib.hid hisP
      have hIS : (0 ≤ pg ∧ pg < (k : Int)) ↔ isP = true := by rw [hisP]; simp
      have HIF := Lib.hid hIS
      clear hisP hIS
      go_upto_region 14 with fail
      go_cut [10] (fun s10 wx => s10 = .bool isP ∧ wx = w5)
      case first =>
        as_aux_lemma =>
          by_cases h1 : 0 ≤ pg
          · have b1 : decide (0 ≤ pg) = true := decide_eq_true h1
            by_cases h2 : pg < (k : Int)
            · have b2 : decide (pg < (k : Int)) = true := decide_eq_true h2
              have e : isP = true := HIF.out.1 ⟨h1, h2⟩
              go_wp2_with fail
              go_meet
              case rel => exact ⟨by rw [e], rfl⟩
            · have b2 : decide (pg < (k : Int)) = false := decide_eq_false h2
              have e : isP = false := by rw [HIS.out, b1, b2]; rfl
              go_wp2_with fail
              go_meet
              case rel => exact ⟨by rw [e], rfl⟩
          · have b1 : decide (0 ≤ pg) = false := decide_eq_false h1
            have e : isP = false := by rw [HIS.out, b1]; rfl
            go_wp2_with fail
            go_meet
            case rel => exact ⟨by rw [e], rfl⟩
      case rest =>
      obtain ⟨rfl, hwc⟩ := hcut
      subst hwc
      obtain ⟨w5, rfl⟩ : ∃ w5 : World, w5 = wc := ⟨_, rfl⟩
      by_cases hk1 : kd = 1
      · subst hk1
        have HAdd := Lib.hid (bAdd y k v h s K (by omega) w w5 _ HT.out S5.out)
        rw [← HST.out] at HAdd
        unfold bareV at HAdd
        obtain ⟨c0', c1', c2', c3'⟩ := b_cells S5.out
        go_wp2_with fail
        refine HAdd.out.mono ?_
        rintro e w6 ⟨v6, rfl, hX⟩
        have S6 := Lib.hid hX
        clear hX S5 HAdd k0 k1 c0' c1' c2' c3'
        have HG6 := Lib.hid HG.out.add
        obtain ⟨c3', k1, k2, k3, k4, k5, k6, k7, k8⟩ := b_all S6.out
        have S6B := ((S6.out.below (blA (Below.refl _ _) (.cells (shZ pg nd (.slice A1 nd.list.length c1)) 53))).drew)
        have HSB := Lib.hid S6B
        clear S6B
        unfold shZ at HSB
        go_upto_region 20 with fail
        cases hy : nay k pg (restamp nd st) with
        | true =>
          -- TAG:1t
          have HPut := Lib.hid (bPut_bad y k (by omega) v6 h HG.out.good.oks (Ls (K + 1)) s HG.out.good.okd st hst1 hst2 w6.heap.size 1 pg nd (.slice A1 nd.list.length c1) hy w _ _ (HRow.out _ HSB.out.bel) (Blk.new w6 (shZ pg nd (.slice A1 nd.list.length c1)) 53) HSB.out)
          have HNO := Lib.hid (nay_no k pg (restamp nd st) hy)
          clear hy
          have tA := b_all S6.out.drew
          have tB := b_all HSB.out
          clear c3' k1 k2 k3 k4 k5 k6 k7 k8
          go_region_held3 (fun W : World => W.cell? ⟨y.gb, 3, none⟩ = some (.pointer (some ⟨y.g, 0, none⟩)) ∧ W.cell? ⟨gx, 1, none⟩ = some (.int .i64 pg) ∧ W.cell? ⟨gx, 2, none⟩ = some (.int .i64 nd.tree) ∧ W.cell? ⟨gx, 3, none⟩ = some (.int .i64 nd.level) ∧ W.cell? ⟨gx, 4, none⟩ = some (.int .i64 nd.stamp) ∧ W.cell? ⟨gx, 5, none⟩ = some (.bool nd.has) ∧ W.cell? ⟨gx, 6, none⟩ = some (.string (ofL nd.high)) ∧ W.cell? ⟨gx, 7, none⟩ = some (.int .i64 nd.right) ∧ W.cell? ⟨gx, 8, none⟩ = some (.slice A1 nd.list.length c1)) (first | exact tA | exact tB | exact tC) (first | (go_at_call 9; refine HPut.out.mono ?_; rintro e w7 ⟨rfl, hX⟩; have S7 := Lib.hid hX; have tC := b_all hX))
          obtain ⟨-, k1, k2, k3, k4, k5, k6, k7, k8⟩ := tC
          clear HPut HSB S6 tA tB hX
          have S8 := Lib.hid (S7.out.alloc #[.int .i64 nd.tree, .int .i64 nd.level, .int .i64 nd.stamp, .bool nd.has, .string (ofL nd.high), .int .i64 nd.right, .slice A1 nd.list.length c1] 31)
          clear S7
          go_upto_region 22 with fail
          obtain ⟨gy, hgz⟩ : ∃ g, g = w7.heap.size := ⟨_, rfl⟩
          rw [← hgz] at S8 ⊢
          clear hgz k1 k2 k3 k4 k5 k6 k7 k8
          generalize w7.alloc _ = w8 at *
          as_aux_lemma =>
            have f2 := (S8.out.has (Has.l (has_blk _ _ _))).free 2
            have q2 := (S8.out.has (Has.l (has_blk _ _ _))).cell 2
            go_upto_region 23 with fail
            have S9 := Lib.hid (S8.out.set (Sets.l (sets_blk gy 31 #[.int .i64 nd.tree, .int .i64 nd.level, .int .i64 nd.stamp, .bool nd.has, .string (ofL nd.high), .int .i64 nd.right, .slice A1 nd.list.length c1] 2 (.int .i64 st))))
            simp only [List.setIfInBounds_toArray, List.set_cons_zero, List.set_cons_succ] at S9
            clear S8 f2 q2
            generalize w8.setCell _ _ = w9 at *
            obtain ⟨⟨q0, q1, q2, q3, q4, q5, q6⟩, -⟩ := seven7 (S9.out.has (Has.l (has_blk _ _ _)))
            have S10 := Lib.hid (S9.out.re (show _ = Asn.blk gy 31 #[.int .i64 nd.tree, .int .i64 nd.level, .int .i64 st, .bool nd.has, .string (ofL nd.high), .int .i64 nd.right, .slice A1 nd.list.length c1] * (Asn.blk gx 33 #[.int .i64 1, .int .i64 pg, .int .i64 nd.tree, .int .i64 nd.level, .int .i64 nd.stamp, .bool nd.has, .string (ofL nd.high), .int .i64 nd.right, .slice A1 nd.list.length c1] * aB y k v6 h (Ls (K + 1)) s (Asn.blk y.gb 42 (bRow y) * (aRt g1 g2 k R * Y))) by simp only [aB_eq]; ac_rfl)).right.right
            have HNA := Lib.hid (fun W (hb : Below w.heap.size w W) => (⟨_, rfl, HRow.out W hb⟩ : NodAt W (.agg (nodCells (restamp nd st) (.slice A1 nd.list.length c1))) (restamp nd st)))
            rcases HNO.out with hno | ⟨p, rfl, hp, hno⟩
            · -- TAG:1ta
              have hF : isP = false := by
                rcases hb : isP with _ | _
                · rfl
                · have := HIF.out.2 hb; omega
              subst hF
              clear HNA
              go_wp2_with fail
              go_roundw
              case rel => exact ⟨i + 1, K + 1, v6, h, s, R, by go_num, by omega, by omega, by omega, HG6, HR, S10⟩
              case measure => simp [intOf]; omega
            · have hF : isP = true := HIF.out.1 ⟨by omega, by omega⟩
              subst hF
              have HGo := Lib.hid (refGood_any (restamp nd st) _ w9 (HNA.out w9 S9.out.bel))
              unfold nodCells at HGo
              rcases hno with hg | ⟨hg, hz⟩
              · -- TAG:1tb
                rw [hg] at HGo
                go_wp2_with fail
                refine HGo.out.mono ?_
                rintro e w10 ⟨rfl, hX⟩
                have S11 := Lib.hid (S10.out.below hX)
                clear hX S9 S10 HGo q0 q1 q2 q3 q4 q5 q6
                go_wp2_with fail
                go_roundw
                case rel => exact ⟨i + 1, K + 1, v6, h, s, R, by go_num, by omega, by omega, by omega, HG6, HR, S11⟩
                case measure => simp [intOf]; omega
              · -- TAG:1tc
                rw [hg] at HGo
                have hzi : decide ((252 : Int) < ((sizeN (restamp nd st) : Nat) : Int)) = true := decide_eq_true (by omega)
                have HSz := Lib.hid (fun W hb => refSize_any (restamp nd st) _ W (HNA.out W hb) (by have := good_size hg; omega))
                unfold nodCells at HSz
                generalize sizeN (restamp nd st) = zz at *
                go_wp2_with fail
                refine HGo.out.mono ?_
                rintro e w10 ⟨rfl, hX⟩
                have S9' := Lib.hid (S9.out.below hX)
                have S11 := Lib.hid (S10.out.below hX)
                clear hX S9 S10 HGo q0 q1 q2 q3 q4 q5 q6
                obtain ⟨⟨q0, q1, q2, q3, q4, q5, q6⟩, -⟩ := seven7 (S9'.out.has (Has.l (has_blk _ _ _)))
                go_wp2_with fail
                refine (HSz.out _ S9'.out.bel).mono ?_
                rintro e w11 ⟨rfl, hX⟩
                have S12 := Lib.hid (S11.out.below hX)
                clear hX S9' S11 HSz q0 q1 q2 q3 q4 q5 q6
                go_wp2_with fail
                go_roundw
                case rel => exact ⟨i + 1, K + 1, v6, h, s, R, by go_num, by omega, by omega, by omega, HG6, HR, S12⟩
                case measure => simp [intOf]; omega
        | false =>
          -- TAG:1f
          obtain ⟨p, rfl, hp, hf⟩ := nay_yes k pg (restamp nd st) hy
          have hul : (R p).un.length ≤ 1000 := by have := (HG.out.page p hp).len; omega
          have HPut := Lib.hid (bPut_ok y k (by omega) v6 h HG.out.good.oks (Ls (K + 1)) s HG.out.good.okd st hst1 hst2 w6.heap.size 1 p nd (.slice A1 nd.list.length c1) hp hf (by omega) w _ _ (HRow.out _ HSB.out.bel) (Blk.new w6 (shZ p nd (.slice A1 nd.list.length c1)) 53) HSB.out)
          have hF : isP = true := HIF.out.1 ⟨by omega, by omega⟩
          subst hF
          have HTP := Lib.hid (fun lv uv => tie_put HG.out p hp nd (by rw [← HST.out]; exact hf) lv (.slice A1 nd.list.length c1) uv)
          rw [← HST.out] at HTP
          clear hy
          have tA := b_all S6.out.drew
          have tB := b_all HSB.out
          clear c3' k1 k2 k3 k4 k5 k6 k7 k8
          go_region_held3 (fun W : World => W.cell? ⟨y.gb, 3, none⟩ = some (.pointer (some ⟨y.g, 0, none⟩)) ∧ W.cell? ⟨gx, 1, none⟩ = some (.int .i64 (p : Int)) ∧ W.cell? ⟨gx, 2, none⟩ = some (.int .i64 nd.tree) ∧ W.cell? ⟨gx, 3, none⟩ = some (.int .i64 nd.level) ∧ W.cell? ⟨gx, 4, none⟩ = some (.int .i64 nd.stamp) ∧ W.cell? ⟨gx, 5, none⟩ = some (.bool nd.has) ∧ W.cell? ⟨gx, 6, none⟩ = some (.string (ofL nd.high)) ∧ W.cell? ⟨gx, 7, none⟩ = some (.int .i64 nd.right) ∧ W.cell? ⟨gx, 8, none⟩ = some (.slice A1 nd.list.length c1)) (first | exact tA | exact tB | exact tC) (first | (go_at_call 9; refine HPut.out.mono ?_; rintro e w7 ⟨v7, lv7, rfl, hX⟩; have S7 := Lib.hid hX; have tC := b_all hX))
          obtain ⟨-, k1, k2, k3, k4, k5, k6, k7, k8⟩ := tC
          clear HPut HSB S6 tA tB hX
          have S8 := Lib.hid (S7.out.alloc #[.int .i64 nd.tree, .int .i64 nd.level, .int .i64 nd.stamp, .bool nd.has, .string (ofL nd.high), .int .i64 nd.right, .slice A1 nd.list.length c1] 31)
          clear S7
          go_upto_region 22 with fail
          obtain ⟨gy, hgz⟩ : ∃ g, g = w7.heap.size := ⟨_, rfl⟩
          rw [← hgz] at S8 ⊢
          clear hgz k1 k2 k3 k4 k5 k6 k7 k8
          generalize w7.alloc _ = w8 at *
          as_aux_lemma =>
            have f2 := (S8.out.has (Has.l (has_blk _ _ _))).free 2
            have q2 := (S8.out.has (Has.l (has_blk _ _ _))).cell 2
            go_upto_region 23 with fail
            have S9 := Lib.hid (S8.out.set (Sets.l (sets_blk gy 31 #[.int .i64 nd.tree, .int .i64 nd.level, .int .i64 nd.stamp, .bool nd.has, .string (ofL nd.high), .int .i64 nd.right, .slice A1 nd.list.length c1] 2 (.int .i64 st))))
            simp only [List.setIfInBounds_toArray, List.set_cons_zero, List.set_cons_succ] at S9
            clear S8 f2 q2
            generalize w8.setCell _ _ = w9 at *
            obtain ⟨⟨q0, q1, q2, q3, q4, q5, q6⟩, -⟩ := seven7 (S9.out.has (Has.l (has_blk _ _ _)))
            have HNA := Lib.hid (fun W (hb : Below w.heap.size w W) => (⟨_, rfl, HRow.out W hb⟩ : NodAt W (.agg (nodCells (restamp nd st) (.slice A1 nd.list.length c1))) (restamp nd st)))
            obtain ⟨hg, hz⟩ := fits_good hf
            have HGo := Lib.hid (refGood_any (restamp nd st) _ w9 (HNA.out w9 S9.out.bel))
            have HSz := Lib.hid (fun W hb => refSize_any (restamp nd st) _ W (HNA.out W hb) (by have := good_size hg; omega))
            unfold nodCells at HGo HSz
            rw [hg] at HGo
            have hzi : decide ((252 : Int) < ((sizeN (restamp nd st) : Nat) : Int)) = false := decide_eq_false (by omega)
            clear hg hz hf
            generalize sizeN (restamp nd st) = zz at *
            go_wp2_with fail
            refine HGo.out.mono ?_
            rintro e w10 ⟨rfl, hX⟩
            have S10 := Lib.hid (S9.out.below hX)
            clear hX S9 HGo q0 q1 q2 q3 q4 q5 q6
            obtain ⟨⟨q0, q1, q2, q3, q4, q5, q6⟩, -⟩ := seven7 (S10.out.has (Has.l (has_blk _ _ _)))
            go_wp2_with fail
            refine (HSz.out _ S10.out.bel).mono ?_
            rintro e w11 ⟨rfl, hX⟩
            have S11 := Lib.hid (S10.out.below hX).right
            clear hX S10 HSz q0 q1 q2 q3 q4 q5 q6 HNA
            obtain ⟨c3', k1, k2, k3, k4, k5, k6, k7, k8⟩ := b_all S11.out
            have HRp := Lib.hid (rPut_any g1 g2 k (by omega) R p hp st nd A1 nd.list.length c1 hul w w11 _ (S11.out.re (show _ = aRt g1 g2 k R * (Asn.blk gx 33 #[.int .i64 1, .int .i64 (p : Int), .int .i64 nd.tree, .int .i64 nd.level, .int .i64 nd.stamp, .bool nd.has, .string (ofL nd.high), .int .i64 nd.right, .slice A1 nd.list.length c1] * (aB y k v7 (put h p (some ⟨p, restamp nd st, lv7⟩)) (Ls (K + 1)) ⟨owed s.d p st, s.P, s.safe⟩ (Asn.blk y.gb 42 (bRow y) * Y))) by simp only [aB_eq]; ac_rfl)))
            unfold shZ at HRp
            go_upto_region 28 with fail
            clear hzi hul c3'
            go_wp2_with (with_reducible refine list_build2 rfl 53 (.tmp 135) (.tmp 137) rfl (.int .i64 (p : Int)) (.agg #[.int .i64 nd.tree, .int .i64 nd.level, .int .i64 nd.stamp, .bool nd.has, .string (ofL nd.high), .int .i64 nd.right, .slice A1 nd.list.length c1]) ?b1 ?b2 _ (run_ch w11 p nd.tree nd.level nd.stamp nd.right nd.has (ofL nd.high) A1 nd.list.length c1) ?_)
            case b1 => rfl
            case b2 => rfl
            refine HRp.out.mono ?_
            rintro e w12 ⟨uv', rfl, hX⟩
            have S12 := Lib.hid (hX.re (show _ = Asn.blk gx 33 #[.int .i64 1, .int .i64 (p : Int), .int .i64 nd.tree, .int .i64 nd.level, .int .i64 nd.stamp, .bool nd.has, .string (ofL nd.high), .int .i64 nd.right, .slice A1 nd.list.length c1] * aB y k v7 (put h p (some ⟨p, restamp nd st, lv7⟩)) (Ls (K + 1)) ⟨owed s.d p st, s.P, s.safe⟩ (Asn.blk y.gb 42 (bRow y) * (aRt g1 g2 k (Sl.upd R p ⟨restamp nd st, .slice A1 nd.list.length c1, (R p).un ++ [st], uv', (R p).wr, (R p).wv, true⟩) * Y)) by simp only [aB_eq]; ac_rfl)).right
            have HT2 := Lib.hid (HTP.out lv7 uv')
            have HR2 := Lib.hid (upd_row HR.out p ⟨restamp nd st, .slice A1 nd.list.length c1, (R p).un ++ [st], uv', (R p).wr, (R p).wv, true⟩ (Or.inr (Or.inr (HRow.out w (Below.refl _ _)))))
            clear hX S11 HRp HTP k1 k2 k3 k4 k5 k6 k7 k8
            have HTo := Lib.hid (told_any k (i + 1) (K + 1) (by omega) (by omega) y v7 _ _ _ g1 g2 HT2.out w _ _ HR2.out S12.out)
            go_wp2_with fail
            refine HTo.out.mono ?_
            rintro e w9 ⟨rfl, hX⟩
            have S9 := Lib.hid hX
            clear hX HTo S12
            go_wp2_with fail
            go_roundw
            case rel => exact ⟨i + 1, (K + 1), v7, _, _, _, by go_num, by omega, by omega, by omega, HT2, HR2, S9⟩
            case measure => simp [intOf]; omega
      clear hst1 hst2 HST
      have m1' : (kd == 1) = false := beq_eq_false_iff_ne.2 hk1
      by_cases hk2 : kd = 2
      · subst hk2
        as_aux_lemma =>
          as_aux_lemma =>
            obtain ⟨c0', c1', c2', c3'⟩ := b_cells S5.out
            have SD := Lib.hid S5.out.drew
            by_cases hin : ∃ (p : Nat) (z : Sh), pg = p ∧ p < k ∧ h p = some z
            · as_aux_lemma =>
                obtain ⟨p, z, rfl, hp, hz⟩ := hin
                have hF : isP = true := HIF.out.1 ⟨by omega, by omega⟩
                subst hF
                have hzp := HG.out.good.oks p z hz
                have hfit := good_fit HG.out.good z (by omega) (by rw [hzp]; exact hz)
                have HTW := Lib.hid (fun wv => tie_wr HG.out z (by omega) (by rw [hzp]; exact hz) wv)
                rw [hzp] at HTW
                have HEv := Lib.hid (bEvict_yes y k (by omega) v h HG.out.good.oks (Ls K) s HG.out.good.okd p hp z hz hfit w _ _ HT.out SD.out)
                have hheld : (R p).held = true := by rw [(HG.out.page p hp).held, hz]; rfl
                have hul := (HG.out.page p hp).len
                have hpk : (p : Int) < (k : Int) := by omega
                clear hfit hzp hz
                go_upto_region 32 with fail
                clear c0' c1' c2' c3' k0 k1
                have tA := b_all S5.out.drew
                go_region_held3 (fun W : World => W.cell? ⟨y.gb, 3, none⟩ = some (.pointer (some ⟨y.g, 0, none⟩)) ∧ W.cell? ⟨gx, 1, none⟩ = some (.int .i64 (p : Int)) ∧ W.cell? ⟨gx, 2, none⟩ = some (.int .i64 nd.tree) ∧ W.cell? ⟨gx, 3, none⟩ = some (.int .i64 nd.level) ∧ W.cell? ⟨gx, 4, none⟩ = some (.int .i64 nd.stamp) ∧ W.cell? ⟨gx, 5, none⟩ = some (.bool nd.has) ∧ W.cell? ⟨gx, 6, none⟩ = some (.string (ofL nd.high)) ∧ W.cell? ⟨gx, 7, none⟩ = some (.int .i64 nd.right) ∧ W.cell? ⟨gx, 8, none⟩ = some (.slice A1 nd.list.length c1)) (first | exact tA | exact tC) (first | (go_at_call 13; refine HEv.out.mono ?_; rintro e w7 ⟨v7, rfl, hX⟩; have S7 := Lib.hid hX; have tC := b_all hX))
                obtain ⟨-, k1, -⟩ := tC
                obtain ⟨t0, tp⟩ := b_top S7.out
                have q9 : w7.cell? ⟨g2, p * 10 + 9, none⟩ = some (.bool true) := tp p 9 hp (by decide) _ (by rw [← hheld]; rfl)
                clear tp SD tA HEv S5 hX
                go_upto_region 33 with fail
                go_quiet (fail)
                have S8 := Lib.hid (S7.out.drewN nq)
                clear S7 k1 t0 q9
                generalize w7.drewN nq = w8 at *
                obtain ⟨-, k1, -⟩ := b_all S8.out
                have HWr := Lib.hid (rWrite_any g1 g2 k (by omega) R p hp (by omega) (by omega) w w8 _ (S8.out.re (show _ = aRt g1 g2 k R * (Asn.blk gx 33 #[.int .i64 2, .int .i64 (p : Int), .int .i64 nd.tree, .int .i64 nd.level, .int .i64 nd.stamp, .bool nd.has, .string (ofL nd.high), .int .i64 nd.right, .slice A1 nd.list.length c1] * aB y k v7 (put h p none) (Ls K) (wr1 (Ls K) s z) (Asn.blk y.gb 42 (bRow y) * Y)) by simp only [aB_eq]; ac_rfl)))
                go_wp2_with fail
                refine HWr.out.mono ?_
                rintro e w9 ⟨wv', rfl, hX⟩
                obtain ⟨R1, hR1⟩ : ∃ R1, R1 = Sl.upd R p (wrt (R p) wv') := ⟨_, rfl⟩
                have HT1 := Lib.hid (HTW.out wv')
                have HR1 := Lib.hid (upd_row HR.out p (wrt (R p) wv') (Or.inr (Or.inl ⟨rfl, rfl⟩)))
                have hun : (R1 p).un = [] := by rw [hR1, Sl.upd_same]; rfl
                have S9 := Lib.hid (hX.re (show _ = aB y k v7 (put h p none) (Ls K) (wr1 (Ls K) s z) (Asn.blk y.gb 42 (bRow y) * (Asn.blk gx 33 #[.int .i64 2, .int .i64 (p : Int), .int .i64 nd.tree, .int .i64 nd.level, .int .i64 nd.stamp, .bool nd.has, .string (ofL nd.high), .int .i64 nd.right, .slice A1 nd.list.length c1] * (aRt g1 g2 k R1 * Y))) by rw [hR1]; unfold wrt; simp only [aB_eq]; ac_rfl))
                rw [← hR1] at HT1 HR1
                clear hX HWr S8 k1 hR1 HTW hheld
                have HT2 := Lib.hid ((tie_drop HT1.out p hp hun { R1 p with held := false } rfl).more)
                have HR2 := Lib.hid (upd_row HR1.out p { R1 p with held := false } (Or.inr (Or.inl ⟨rfl, rfl⟩)))
                go_upto_region 37 with fail
                refine wp_region_still_tail 8 (by kernel_rfl) (by kernel_rfl) ?_
                simp only [List.take_succ_cons, List.take_zero, List.drop_succ_cons, List.drop_zero]
                change wpStill _ _ w9.drew _ _ _
                have S9d := Lib.hid S9.out.drew
                obtain ⟨-, k1, -⟩ := b_all S9d.out
                obtain ⟨t0, -⟩ := b_top S9d.out
                have hpk' : (p : Int) < (k : Int) := by omega
                repeat still_step
                refine wpStill_nil ?_
                change wpList _ _ _ _ _ w9.drew
                generalize w9.drew = w10 at *
                have S10 := S9d.out.re (show _ = Asn.vec 59 10 (.slice (some ⟨g2, 0, none⟩) k k) k (rps k R1) * (Asn.blk g1 62 #[.slice (some ⟨g2, 0, none⟩) k k] * (aU R1 k * (Asn.blk gx 33 #[.int .i64 2, .int .i64 (p : Int), .int .i64 nd.tree, .int .i64 nd.level, .int .i64 nd.stamp, .bool nd.has, .string (ofL nd.high), .int .i64 nd.right, .slice A1 nd.list.length c1] * aB y k v7 (put h p none) (Ls K) (wr1 (Ls K) s z) (Asn.blk y.gb 42 (bRow y) * Y)))) by unfold aRt; simp only [aB_eq]; ac_rfl)
                have q9 := S10.vec.cell (rps_at k R1 p 9 hp (by decide))
                have f9 := S10.vec.free (p * 10 + 9)
                have S11 := S10.set (Sets.l (sets_vec _ _ _ _ _ _ (p * 10 + 9) (by omega) (.bool false)))
                rw [rps_held k R1 p hp false, rt_upd g1 g2 k R1 p hp false] at S11
                have S12 := Lib.hid S11
                clear S9d S10 S11 k1
                go_upto_region 38 with fail
                clear q9 f9 t0 S9
                have S13 := Lib.hid (S12.out.re (show _ = Asn.blk gx 33 #[.int .i64 2, .int .i64 (p : Int), .int .i64 nd.tree, .int .i64 nd.level, .int .i64 nd.stamp, .bool nd.has, .string (ofL nd.high), .int .i64 nd.right, .slice A1 nd.list.length c1] * aB y k v7 (put h p none) (Ls K) (wr1 (Ls K) s z) (Asn.blk y.gb 42 (bRow y) * (aRt g1 g2 k (Sl.upd R1 p { R1 p with held := false }) * Y)) by simp only [aB_eq]; ac_rfl)).right
                clear S12
                have HTo := Lib.hid (told_any k (i + 1) K (by omega) (by omega) y v7 _ _ _ g1 g2 HT2.out w _ _ HR2.out S13.out)
                go_wp2_with fail
                refine HTo.out.mono ?_
                rintro e w9 ⟨rfl, hX⟩
                have S9 := Lib.hid hX
                clear hX HTo S13
                go_wp2_with fail
                go_roundw
                case rel => exact ⟨i + 1, K, v7, _, _, _, by go_num, by omega, by omega, by omega, HT2, HR2, S9⟩
                case measure => simp [intOf]; omega
            · as_aux_lemma =>
                have hno : pg < 0 ∨ (k : Int) ≤ pg ∨ ∃ p : Nat, pg = p ∧ p < k ∧ h p = none := by
                  by_cases a1 : pg < 0
                  · exact Or.inl a1
                  · by_cases a2 : (k : Int) ≤ pg
                    · exact Or.inr (Or.inl a2)
                    · refine Or.inr (Or.inr ⟨pg.toNat, by omega, by omega, ?_⟩)
                      cases hz : h pg.toNat with
                      | none => rfl
                      | some z => exact absurd ⟨pg.toNat, z, by omega, by omega, hz⟩ hin
                have HEv := Lib.hid (bEvict_no y k (by omega) v h HG.out.good.oks (Ls K) s HG.out.good.okd pg hno w _ _ SD.out)
                have HM1 := Lib.hid HG.out.more
                go_upto_region 32 with fail
                clear c0' c1' c2' c3' k0 k1 hin
                have tA := b_all S5.out.drew
                go_region_held3 (fun W : World => W.cell? ⟨y.gb, 3, none⟩ = some (.pointer (some ⟨y.g, 0, none⟩)) ∧ W.cell? ⟨gx, 1, none⟩ = some (.int .i64 pg) ∧ W.cell? ⟨gx, 2, none⟩ = some (.int .i64 nd.tree) ∧ W.cell? ⟨gx, 3, none⟩ = some (.int .i64 nd.level) ∧ W.cell? ⟨gx, 4, none⟩ = some (.int .i64 nd.stamp) ∧ W.cell? ⟨gx, 5, none⟩ = some (.bool nd.has) ∧ W.cell? ⟨gx, 6, none⟩ = some (.string (ofL nd.high)) ∧ W.cell? ⟨gx, 7, none⟩ = some (.int .i64 nd.right) ∧ W.cell? ⟨gx, 8, none⟩ = some (.slice A1 nd.list.length c1)) (first | exact tA | exact tC) (first | (go_at_call 13; refine HEv.out.mono ?_; rintro e w7 ⟨rfl, hX⟩; have S7 := Lib.hid hX; have tC := b_all hX))
                obtain ⟨-, k1, -⟩ := tC
                obtain ⟨t0, tp⟩ := b_top S7.out
                clear SD tA HEv S5 hX
                go_upto_region 33 with fail
                cases hisc : isP with
                | false =>
                  as_aux_lemma =>
                    have hF := hisc
                    subst hF
                    go_quiet (fail)
                    have S8 := Lib.hid ((S7.out.drewN nq).re (show _ = Asn.blk gx 33 #[.int .i64 2, .int .i64 pg, .int .i64 nd.tree, .int .i64 nd.level, .int .i64 nd.stamp, .bool nd.has, .string (ofL nd.high), .int .i64 nd.right, .slice A1 nd.list.length c1] * aB y k v h (Ls K) s (Asn.blk y.gb 42 (bRow y) * (aRt g1 g2 k R * Y)) by simp only [aB_eq]; ac_rfl)).right
                    clear S7 k1 t0 tp
                    go_wp2_with fail
                    go_roundw
                    case rel => exact ⟨i + 1, K, v, h, s, R, by go_num, by omega, by omega, by omega, HM1, HR, S8⟩
                    case measure => simp [intOf]; omega
                | true =>
                  as_aux_lemma =>
                    have hF := hisc
                    subst hF
                    obtain ⟨p, rfl, hp, hz⟩ : ∃ p : Nat, pg = p ∧ p < k ∧ h p = none := by
                      have := HIF.out.2 rfl
                      rcases hno with a | a | a
                      · omega
                      · omega
                      · exact a
                    have hheld : (R p).held = false := by rw [(HG.out.page p hp).held, hz]; rfl
                    have q9 : w7.cell? ⟨g2, p * 10 + 9, none⟩ = some (.bool false) := tp p 9 hp (by decide) _ (by rw [← hheld]; rfl)
                    have hpk : (p : Int) < (k : Int) := by omega
                    clear tp hz hheld
                    go_quiet (fail)
                    have S8 := Lib.hid ((S7.out.drewN nq).re (show _ = Asn.blk gx 33 #[.int .i64 2, .int .i64 (p : Int), .int .i64 nd.tree, .int .i64 nd.level, .int .i64 nd.stamp, .bool nd.has, .string (ofL nd.high), .int .i64 nd.right, .slice A1 nd.list.length c1] * aB y k v h (Ls K) s (Asn.blk y.gb 42 (bRow y) * (aRt g1 g2 k R * Y)) by simp only [aB_eq]; ac_rfl)).right
                    clear S7 k1 t0 q9
                    go_wp2_with fail
                    go_roundw
                    case rel => exact ⟨i + 1, K, v, h, s, R, by go_num, by omega, by omega, by omega, HM1, HR, S8⟩
                    case measure => simp [intOf]; omega
      have m2' : (kd == 2) = false := beq_eq_false_iff_ne.2 hk2
      by_cases hk3 : kd = 3
      · subst hk3
        as_aux_lemma =>
          go_wp2_with fail
          clear k0 k1
          go_loopw [16] (fun p16 wr => ∃ (j : Nat) (R' : Nat → Rp), p16 = .int .i64 j ∧ j ≤ k ∧ Hid (∀ p, er (R' p) = er (wrH R j p)) ∧ Hid (Own w No wr (aB y k v h (Ls K) s (Asn.blk y.gb 42 (bRow y) * (Asn.blk gx 33 #[.int .i64 3, .int .i64 pg, .int .i64 nd.tree, .int .i64 nd.level, .int .i64 nd.stamp, .bool nd.has, .string (ofL nd.high), .int .i64 nd.right, .slice A1 nd.list.length c1] * (aRt g1 g2 k R' * Y)))))) (fun p16 _ => k + 1 - (intOf p16).toNat)
          case atStart => exact ⟨0, R, rfl, Nat.zero_le _, Lib.hid (fun p => by rw [wrH_zero]), S5⟩
          case round =>
            clear S5
            obtain ⟨j, R', rfl, hj, He, S5⟩ := hrel
            by_cases hlj : j < k
            · have hjk : (j : Int) < (k : Int) := by omega
              obtain ⟨t0, tp⟩ := b_top S5.out
              have hej : er (R' j) = er (R j) := by rw [He.out j, wrH_at]
              have eh : (R' j).held = (R j).held := by have := congrArg Rp.held hej; exact this
              have eu : (R' j).un = (R j).un := by have := congrArg Rp.un hej; exact this
              have ew : (R' j).wr = (R j).wr := by have := congrArg Rp.wr hej; exact this
              have en : (R' j).nd = (R j).nd := by have := congrArg Rp.nd hej; exact this
              have ev : (R' j).nv = (R j).nv := by have := congrArg Rp.nv hej; exact this
              have hul := (HG.out.page j hlj).len
              rw [← eu, ← ew] at hul
              have q9 := tp j 9 hlj (by decide) _ (show (rpCells (R' j))[9]? = some (.bool (R' j).held) from rfl)
              clear tp
              cases hh : (R j).held with
              | true =>
                as_aux_lemma =>
                  rw [eh, hh] at q9
                  have HEN : Hid (∀ wv' p, er (Sl.upd R' j (wrt (R' j) wv') p) = er (wrH R (j + 1) p)) := Lib.hid fun wv' p => by
                    rw [wrH_yes R j hh]
                    by_cases hpj : p = j
                    · subst hpj
                      rw [Sl.upd_same, Sl.upd_same]
                      unfold er wrt
                      dsimp only
                      rw [eu, ew, en, ev, eh]
                    · rw [Sl.upd_other _ _ _ _ hpj, Sl.upd_other _ _ _ _ hpj]; exact He.out p
                  have HWr := Lib.hid (rWrite_any g1 g2 k (by omega) R' j hlj (by omega) (by omega) w wr _ (S5.out.re (show _ = aRt g1 g2 k R' * (Asn.blk gx 33 #[.int .i64 3, .int .i64 pg, .int .i64 nd.tree, .int .i64 nd.level, .int .i64 nd.stamp, .bool nd.has, .string (ofL nd.high), .int .i64 nd.right, .slice A1 nd.list.length c1] * aB y k v h (Ls K) s (Asn.blk y.gb 42 (bRow y) * Y)) by simp only [aB_eq]; ac_rfl)))
                  clear hh eh eu ew en ev hej
                  go_wp2_with fail
                  refine HWr.out.mono ?_
                  rintro e w9 ⟨wv', rfl, hX⟩
                  have S9 := Lib.hid (hX.re (show _ = aB y k v h (Ls K) s (Asn.blk y.gb 42 (bRow y) * (Asn.blk gx 33 #[.int .i64 3, .int .i64 pg, .int .i64 nd.tree, .int .i64 nd.level, .int .i64 nd.stamp, .bool nd.has, .string (ofL nd.high), .int .i64 nd.right, .slice A1 nd.list.length c1] * (aRt g1 g2 k (Sl.upd R' j (wrt (R' j) wv')) * Y))) by unfold wrt; simp only [aB_eq]; ac_rfl))
                  clear hX HWr S5 q9 t0
                  go_wp2_with fail
                  go_roundw
                  case rel => exact ⟨j + 1, _, by go_num, by omega, Lib.hid (HEN.out wv'), S9⟩
                  case measure => simp [intOf]; omega
              | false =>
                as_aux_lemma =>
                  rw [eh, hh] at q9
                  have HEN : Hid (∀ p, er (R' p) = er (wrH R (j + 1) p)) := Lib.hid fun p => by rw [wrH_no R j hh]; exact He.out p
                  clear hh eh eu ew en ev hej
                  go_wp2_with fail
                  go_roundw
                  case rel => exact ⟨j + 1, R', by go_num, by omega, HEN, S5⟩
                  case measure => simp [intOf]; omega
            · as_aux_lemma =>
                obtain rfl : j = k := by omega
                obtain ⟨c0', c1', c2', c3'⟩ := b_cells S5.out
                have HFl := Lib.hid (bFlush y j (by omega) v h HG.out.good.oks (Ls K) s HG.out.good.okd (fun x hx => good_fit HG.out.good x (held_mem HG.out.good.oks x hx).1 (held_mem HG.out.good.oks x hx).2) w _ _ HT.out S5.out)
                have HT2 := Lib.hid (tie_sync ((tie_fold HG.out j (Nat.le_refl _)).like (fun p => (He.out p).symm))).more
                have HR2 : Hid (∀ p, p < j → Row3 w (syn R' j p).nv (syn R' j p).nd.list) := Lib.hid fun p hp => by
                  have e1 : (syn R' j p).nv = (R p).nv := by
                    have e := congrArg Rp.nv (He.out p)
                    have e2 : (wrH R j p).nv = (R p).nv := by unfold wrH; split <;> rfl
                    have e3 : (syn R' j p).nv = (R' p).nv := by unfold syn; split <;> rfl
                    rw [e3, ← e2]; exact e
                  have e1' : (syn R' j p).nd = (R p).nd := by
                    have e := congrArg Rp.nd (He.out p)
                    have e2 : (wrH R j p).nd = (R p).nd := by unfold wrH; split <;> rfl
                    have e3 : (syn R' j p).nd = (R' p).nd := by unfold syn; split <;> rfl
                    rw [e3, ← e2]; exact e
                  rw [e1, e1']; exact HR.out p hp
                go_wp2_with fail
                refine HFl.out.mono ?_
                rintro e w7 ⟨v7, rfl, hX⟩
                have S7 := Lib.hid hX
                clear hX HFl S5 c0' c1' c2' c3'
                have HSy := Lib.hid (rSync_any g1 g2 j (by omega) R' w w7 _ (S7.out.re (show _ = aRt g1 g2 j R' * (Asn.blk gx 33 #[.int .i64 3, .int .i64 pg, .int .i64 nd.tree, .int .i64 nd.level, .int .i64 nd.stamp, .bool nd.has, .string (ofL nd.high), .int .i64 nd.right, .slice A1 nd.list.length c1] * aB y j v7 h (Ls K) _ (Asn.blk y.gb 42 (bRow y) * Y)) by simp only [aB_eq]; ac_rfl)))
                go_wp2_with fail
                refine HSy.out.mono ?_
                rintro e w8 ⟨rfl, hX⟩
                have S8 := Lib.hid (hX.re (show _ = Asn.blk gx 33 #[.int .i64 3, .int .i64 pg, .int .i64 nd.tree, .int .i64 nd.level, .int .i64 nd.stamp, .bool nd.has, .string (ofL nd.high), .int .i64 nd.right, .slice A1 nd.list.length c1] * aB y j v7 h (Ls K) _ (Asn.blk y.gb 42 (bRow y) * (aRt g1 g2 j (syn R' j) * Y)) by simp only [aB_eq]; ac_rfl)).right
                clear hX HSy S7
                have HTo := Lib.hid (told_any j (i + 1) K (by omega) (by omega) y v7 _ _ _ g1 g2 HT2.out w _ _ HR2.out S8.out)
                go_wp2_with fail
                refine HTo.out.mono ?_
                rintro e w9 ⟨rfl, hX⟩
                have S9 := Lib.hid hX
                clear hX HTo S8
                go_wp2_with fail
                go_roundw
                case rel => exact ⟨i + 1, K, v7, _, _, _, by go_num, by omega, by omega, by omega, HT2, HR2, S9⟩
                case measure => simp [intOf]; omega
      have m3' : (kd == 3) = false := beq_eq_false_iff_ne.2 hk3
      by_cases hk4 : kd = 4
      · subst hk4
        as_aux_lemma =>
          as_aux_lemma =>
            obtain ⟨c0', c1', c2', c3'⟩ := b_cells S5.out
            have HSs := Lib.hid (bSync y k (by omega) v h HG.out.good.oks (Ls K) s HG.out.good.okd w _ _ S5.out)
            have HT2 := Lib.hid (tie_sync HG.out).more
            have HR2 : Hid (∀ p, p < k → Row3 w (syn R k p).nv (syn R k p).nd.list) := Lib.hid fun p hp => by
              have e1 : (syn R k p).nv = (R p).nv := by unfold syn; split <;> rfl
              have e2 : (syn R k p).nd = (R p).nd := by unfold syn; split <;> rfl
              rw [e1, e2]; exact HR.out p hp
            go_wp2_with fail
            refine HSs.out.mono ?_
            rintro e w7 ⟨v7, rfl, hX⟩
            have S7 := Lib.hid hX
            clear hX HSs S5 c0' c1' c2' c3' k0 k1
            have HSy := Lib.hid (rSync_any g1 g2 k (by omega) R w w7 _ (S7.out.re (show _ = aRt g1 g2 k R * (Asn.blk gx 33 #[.int .i64 4, .int .i64 pg, .int .i64 nd.tree, .int .i64 nd.level, .int .i64 nd.stamp, .bool nd.has, .string (ofL nd.high), .int .i64 nd.right, .slice A1 nd.list.length c1] * aB y k v7 h (Ls K) _ (Asn.blk y.gb 42 (bRow y) * Y)) by simp only [aB_eq]; ac_rfl)))
            go_wp2_with fail
            refine HSy.out.mono ?_
            rintro e w8 ⟨rfl, hX⟩
            have S8 := Lib.hid (hX.re (show _ = Asn.blk gx 33 #[.int .i64 4, .int .i64 pg, .int .i64 nd.tree, .int .i64 nd.level, .int .i64 nd.stamp, .bool nd.has, .string (ofL nd.high), .int .i64 nd.right, .slice A1 nd.list.length c1] * aB y k v7 h (Ls K) _ (Asn.blk y.gb 42 (bRow y) * (aRt g1 g2 k (syn R k) * Y)) by simp only [aB_eq]; ac_rfl)).right
            clear hX HSy S7
            have HTo := Lib.hid (told_any k (i + 1) K (by omega) (by omega) y v7 _ _ _ g1 g2 HT2.out w _ _ HR2.out S8.out)
            go_wp2_with fail
            refine HTo.out.mono ?_
            rintro e w9 ⟨rfl, hX⟩
            have S9 := Lib.hid hX
            clear hX HTo S8
            go_wp2_with fail
            go_roundw
            case rel => exact ⟨i + 1, K, v7, _, _, _, by go_num, by omega, by omega, by omega, HT2, HR2, S9⟩
            case measure => simp [intOf]; omega
      have m4' : (kd == 4) = false := beq_eq_false_iff_ne.2 hk4
      by_cases hk5 : kd = 5
      · subst hk5
        have S6 := Lib.hid S5.out.drew
        have HM1 := Lib.hid HG.out.more
        cases hisc : isP with
        | false =>
          -- TAG:5o
          have hF := hisc
          subst hF
          have hno : pg < 0 ∨ (k : Int) ≤ pg := by
            by_cases a1 : pg < 0
            · exact Or.inl a1
            · by_cases a2 : (k : Int) ≤ pg
              · exact Or.inr a2
              · have := HIF.out.1 ⟨by omega, by omega⟩; cases this
          have HNd := Lib.hid (fun W Z (hW : Own w No W (aB y k v h (Ls K) s (Asn.blk y.gb 42 (bRow y) * (Asn.blk gx 33 #[.int .i64 5, .int .i64 pg, .int .i64 nd.tree, .int .i64 nd.level, .int .i64 nd.stamp, .bool nd.has, .string (ofL nd.high), .int .i64 nd.right, .slice A1 nd.list.length c1] * (aRt g1 g2 k R * Z))))) => bNode_no y k (by omega) v h HG.out.good.oks (Ls K) s HG.out.good.okd pg hno w W _ hW)
          unfold zero7 at HNd
          have tA := b_two S6.out
          go_upto_region 54 with fail
          go_cut [17, 18] (fun s17 s18 wx => ∃ gy : Nat, s17 = .pointer (some ⟨gy, 0, none⟩) ∧ s18 = .int .i64 1 ∧ Hid (Own w No wx (Asn.blk gy 31 #[.int .i64 0, .int .i64 0, .int .i64 0, .bool false, .string ⟨#[]⟩, .int .i64 0, .slice none 0 0] * aB y k v h (Ls K) s (Asn.blk y.gb 42 (bRow y) * (Asn.blk gx 33 #[.int .i64 5, .int .i64 pg, .int .i64 nd.tree, .int .i64 nd.level, .int .i64 nd.stamp, .bool nd.has, .string (ofL nd.high), .int .i64 nd.right, .slice A1 nd.list.length c1] * (aRt g1 g2 k R * Y))))))
          case first =>
            as_aux_lemma =>
              -- TAG:5f
              clear k0 k1
              refine wp_region_held_drew (S := fun W : World => W.cell? ⟨y.gb, 3, none⟩ = some (.pointer (some ⟨y.g, 0, none⟩)) ∧ W.cell? ⟨gx, 1, none⟩ = some (.int .i64 pg)) (by kernel_rfl) tA (fun hHeld => ?_)
              generalize w5.drew = w6 at *
              refine' wpAnyH_take (i := 0) (oi := ?onAo0) (v := ?vnAo0) ?hnAo0 ?snAo0 ?fnAo0 ?znAo0 ?qnAo0 ?ynAo0 ?anAo0 ?rnAo0
              case hnAo0 => (simp only [List.getElem?_toArray, List.getElem?_cons_succ, List.getElem?_cons_zero]; rfl)
              case snAo0 => kernel_rfl
              case fnAo0 => kernel_rfl
              case znAo0 => kernel_rfl
              case qnAo0 => exact fun _ _ _ h => h
              case ynAo0 => (refine Or.inl ⟨rfl, ?_⟩; intro w hSw; (try dsimp only at hSw); go_simp; try with_reducible rfl)
              case anAo0 => assumption
              case rnAo0 =>
              simp only [Act.put, List.setIfInBounds_toArray, List.set_cons_zero, List.set_cons_succ]
              refine' wpAnyH_take (i := 1) (oi := ?onAo1) (v := ?vnAo1) ?hnAo1 ?snAo1 ?fnAo1 ?znAo1 ?qnAo1 ?ynAo1 ?anAo1 ?rnAo1
              case hnAo1 => (simp only [List.getElem?_toArray, List.getElem?_cons_succ, List.getElem?_cons_zero]; rfl)
              case snAo1 => kernel_rfl
              case fnAo1 => kernel_rfl
              case znAo1 => kernel_rfl
              case qnAo1 => exact fun _ _ _ h => h
              case ynAo1 => (refine Or.inl ⟨rfl, ?_⟩; intro w hSw; (try dsimp only at hSw); go_simp; try with_reducible rfl)
              case anAo1 => assumption
              case rnAo1 =>
              simp only [Act.put, List.setIfInBounds_toArray, List.set_cons_zero, List.set_cons_succ]
              refine' wpAnyH_take (i := 2) (oi := ?onAo2) (v := ?vnAo2) ?hnAo2 ?snAo2 ?fnAo2 ?znAo2 ?qnAo2 ?ynAo2 ?anAo2 ?rnAo2
              case hnAo2 => (simp only [List.getElem?_toArray, List.getElem?_cons_succ, List.getElem?_cons_zero]; rfl)
              case snAo2 => kernel_rfl
              case fnAo2 => kernel_rfl
              case znAo2 => kernel_rfl
              case qnAo2 => exact fun _ _ _ h => h
              case ynAo2 => (refine Or.inl ⟨rfl, ?_⟩; intro w hSw; (try dsimp only at hSw); go_simp; try with_reducible rfl)
              case anAo2 => assumption
              case rnAo2 =>
              simp only [Act.put, List.setIfInBounds_toArray, List.set_cons_zero, List.set_cons_succ]
              refine' wpAnyH_take (i := 3) (oi := ?onAo3) (v := ?vnAo3) ?hnAo3 ?snAo3 ?fnAo3 ?znAo3 ?qnAo3 ?ynAo3 ?anAo3 ?rnAo3
              case hnAo3 => (simp only [List.getElem?_toArray, List.getElem?_cons_succ, List.getElem?_cons_zero]; rfl)
              case snAo3 => kernel_rfl
              case fnAo3 => kernel_rfl
              case znAo3 => kernel_rfl
              case qnAo3 => exact fun _ _ _ h => h
              case ynAo3 => (refine Or.inl ⟨rfl, ?_⟩; intro w hSw; (try dsimp only at hSw); go_simp; try with_reducible rfl)
              case anAo3 => assumption
              case rnAo3 =>
              simp only [Act.put, List.setIfInBounds_toArray, List.set_cons_zero, List.set_cons_succ]
              refine' wpAnyH_take (i := 4) (oi := ?onAo4) (v := ?vnAo4) ?hnAo4 ?snAo4 ?fnAo4 ?znAo4 ?qnAo4 ?ynAo4 ?anAo4 ?rnAo4
              case hnAo4 => (simp only [List.getElem?_toArray, List.getElem?_cons_succ, List.getElem?_cons_zero]; rfl)
              case snAo4 => kernel_rfl
              case fnAo4 => kernel_rfl
              case znAo4 => kernel_rfl
              case qnAo4 => exact fun _ _ _ h => h
              case ynAo4 => (refine Or.inl ⟨rfl, ?_⟩; intro w hSw; (try dsimp only at hSw); go_simp; try with_reducible rfl)
              case anAo4 => assumption
              case rnAo4 =>
              simp only [Act.put, List.setIfInBounds_toArray, List.set_cons_zero, List.set_cons_succ]
              refine' wpAnyH_take (i := 5) (oi := ?onAo5) (v := ?vnAo5) ?hnAo5 ?snAo5 ?fnAo5 ?znAo5 ?qnAo5 ?ynAo5 ?anAo5 ?rnAo5
              case hnAo5 => (simp only [List.getElem?_toArray, List.getElem?_cons_succ, List.getElem?_cons_zero]; rfl)
              case snAo5 => kernel_rfl
              case fnAo5 => kernel_rfl
              case znAo5 => kernel_rfl
              case qnAo5 => exact fun _ _ _ h => h
              case ynAo5 => (refine Or.inl ⟨rfl, ?_⟩; intro w hSw; (try dsimp only at hSw); go_simp; try with_reducible rfl)
              case anAo5 => assumption
              case rnAo5 =>
              simp only [Act.put, List.setIfInBounds_toArray, List.set_cons_zero, List.set_cons_succ]
              refine wpAnyH_ready (rs := [6, 10]) (by kernel_rfl) (by simp) ?_
              refine' AllReadyH.cons (o := ?oA6o) ?hA6o ?kA6o ?mA6o
              case hA6o => (simp only [List.getElem?_toArray, List.getElem?_cons_succ, List.getElem?_cons_zero]; rfl)
              case kA6o =>
                -- TAG:5A
                intro K0 hK
                go_simp
                go_at_call 18
                refine (HNd.out w6 Y S6.out).mono ?_
                rintro e wA ⟨rfl, hX⟩
                have SA := Lib.hid hX
                clear hX
                refine hK.out _ _ ?_ (fun hHeld => ?_)
                · exact (b_two SA.out)
                clear hK K0
                (try simp only [Act.put, List.setIfInBounds_toArray, List.set_cons_zero, List.set_cons_succ])
                refine' wpAnyH_take (i := 7) (oi := ?onBo7) (v := ?vnBo7) ?hnBo7 ?snBo7 ?fnBo7 ?znBo7 ?qnBo7 ?ynBo7 ?anBo7 ?rnBo7
                case hnBo7 => (simp only [List.getElem?_toArray, List.getElem?_cons_succ, List.getElem?_cons_zero]; rfl)
                case snBo7 => kernel_rfl
                case fnBo7 => kernel_rfl
                case znBo7 => kernel_rfl
                case qnBo7 => exact fun _ _ _ h => h
                case ynBo7 => (refine Or.inl ⟨rfl, ?_⟩; intro w hSw; (try dsimp only at hSw); go_simp; try with_reducible rfl)
                case anBo7 => assumption
                case rnBo7 =>
                simp only [Act.put, List.setIfInBounds_toArray, List.set_cons_zero, List.set_cons_succ]
                refine' wpAnyH_take (i := 8) (oi := ?onBo8) (v := ?vnBo8) ?hnBo8 ?snBo8 ?fnBo8 ?znBo8 ?qnBo8 ?ynBo8 ?anBo8 ?rnBo8
                case hnBo8 => (simp only [List.getElem?_toArray, List.getElem?_cons_succ, List.getElem?_cons_zero]; rfl)
                case snBo8 => kernel_rfl
                case fnBo8 => kernel_rfl
                case znBo8 => kernel_rfl
                case qnBo8 => exact fun _ _ _ h => h
                case ynBo8 => (refine Or.inl ⟨rfl, ?_⟩; intro w hSw; (try dsimp only at hSw); go_simp; try with_reducible rfl)
                case anBo8 => assumption
                case rnBo8 =>
                simp only [Act.put, List.setIfInBounds_toArray, List.set_cons_zero, List.set_cons_succ]
                refine' wpAnyH_take (i := 9) (oi := ?onBo9) (v := ?vnBo9) ?hnBo9 ?snBo9 ?fnBo9 ?znBo9 ?qnBo9 ?ynBo9 ?anBo9 ?rnBo9
                case hnBo9 => (simp only [List.getElem?_toArray, List.getElem?_cons_succ, List.getElem?_cons_zero]; rfl)
                case snBo9 => kernel_rfl
                case fnBo9 => kernel_rfl
                case znBo9 => kernel_rfl
                case qnBo9 => exact fun _ _ _ h => h
                case ynBo9 => (refine Or.inl ⟨rfl, ?_⟩; intro w hSw; (try dsimp only at hSw); go_simp; try with_reducible rfl)
                case anBo9 => assumption
                case rnBo9 =>
                simp only [Act.put, List.setIfInBounds_toArray, List.set_cons_zero, List.set_cons_succ]
                refine wpAnyH_ready (rs := [10]) (by kernel_rfl) (by simp) ?_
                refine' AllReadyH.cons (o := ?oA10o) ?hA10o ?kA10o AllReadyH.nil
                case hA10o => (simp only [List.getElem?_toArray, List.getElem?_cons_succ, List.getElem?_cons_zero]; rfl)
                case kA10o =>
                  intro K0 hK
                  go_simp
                  have SA2 := Lib.hid (SA.out.alloc zero7 31)
                  unfold zero7 at SA2
                  obtain ⟨gy, hgz⟩ : ∃ g, g = wA.heap.size := ⟨_, rfl⟩
                  rw [← hgz] at SA2 ⊢
                  clear hgz
                  generalize wA.alloc _ = wA2 at *
                  refine hK.out _ _ ?_ (fun hHeld => ?_)
                  · exact (b_two SA2.out.right)
                  clear hK K0
                  (try simp only [Act.put, List.setIfInBounds_toArray, List.set_cons_zero, List.set_cons_succ])
                  refine wpAnyH_ready (rs := [11]) (by kernel_rfl) (by simp) ?_
                  refine' AllReadyH.cons (o := ?oA11o) ?hA11o ?kA11o AllReadyH.nil
                  case hA11o => (simp only [List.getElem?_toArray, List.getElem?_cons_succ, List.getElem?_cons_zero]; rfl)
                  case kA11o =>
                    intro K0 hK
                    have HSt := Lib.hid (storeN (SA2.out.has (Has.l (has_blk _ _ _))) 0 0 0 0 false ⟨#[]⟩ none 0 0)
                    have SA3 := Lib.hid (own_seven SA2.out (.int .i64 0) (.int .i64 0) (.int .i64 0) (.bool false) (.string ⟨#[]⟩) (.int .i64 0) (.slice none 0 0))
                    refine step_store_w rfl rfl (.tmp 17) (.tmp 227) 31 rfl (.pointer (some ⟨gy, 0, none⟩)) (.agg #[.int .i64 0, .int .i64 0, .int .i64 0, .bool false, .string ⟨#[]⟩, .int .i64 0, .slice none 0 0]) rfl rfl _ HSt.out ?_
                    refine hK.out _ _ ?_ (fun hHeld => ?_)
                    · exact (b_two SA3.out.right)
                    clear hK K0
                    (try simp only [Act.put, List.setIfInBounds_toArray, List.set_cons_zero, List.set_cons_succ])
                    refine' wpAnyH_take (i := 12) (oi := ?onCo12) (v := ?vnCo12) ?hnCo12 ?snCo12 ?fnCo12 ?znCo12 ?qnCo12 ?ynCo12 ?anCo12 ?rnCo12
                    case hnCo12 => (simp only [List.getElem?_toArray, List.getElem?_cons_succ, List.getElem?_cons_zero]; rfl)
                    case snCo12 => kernel_rfl
                    case fnCo12 => kernel_rfl
                    case znCo12 => kernel_rfl
                    case qnCo12 => exact fun _ _ _ h => h
                    case ynCo12 => (refine Or.inl ⟨rfl, ?_⟩; intro w hSw; (try dsimp only at hSw); go_simp; try with_reducible rfl)
                    case anCo12 => assumption
                    case rnCo12 =>
                    simp only [Act.put, List.setIfInBounds_toArray, List.set_cons_zero, List.set_cons_succ]
                    refine wpAnyH_done (by kernel_rfl) ?_ _
                    go_wp2_with fail
                    go_meet
                    case rel => exact ⟨gy, rfl, rfl, SA3⟩
              case mA6o =>
              refine' AllReadyH.cons (o := ?oB10o) ?hB10o ?kB10o AllReadyH.nil
              case hB10o => (simp only [List.getElem?_toArray, List.getElem?_cons_succ, List.getElem?_cons_zero]; rfl)
              case kB10o =>
                -- TAG:5B
                intro K0 hK
                go_simp
                have SB1 := Lib.hid (S6.out.alloc zero7 31)
                unfold zero7 at SB1
                obtain ⟨gy, hgz⟩ : ∃ g, g = w6.heap.size := ⟨_, rfl⟩
                rw [← hgz] at SB1 ⊢
                clear hgz
                generalize w6.alloc _ = wB1 at *
                have SB1' := Lib.hid (SB1.out.re (show _ = aB y k v h (Ls K) s (Asn.blk y.gb 42 (bRow y) * (Asn.blk gx 33 #[.int .i64 5, .int .i64 pg, .int .i64 nd.tree, .int .i64 nd.level, .int .i64 nd.stamp, .bool nd.has, .string (ofL nd.high), .int .i64 nd.right, .slice A1 nd.list.length c1] * (aRt g1 g2 k R * (Asn.blk gy 31 #[.int .i64 0, .int .i64 0, .int .i64 0, .bool false, .string ⟨#[]⟩, .int .i64 0, .slice none 0 0] * Y)))) by simp only [aB_eq]; ac_rfl))
                refine hK.out _ _ ?_ (fun hHeld => ?_)
                · exact (b_two SB1'.out)
                clear hK K0
                (try simp only [Act.put, List.setIfInBounds_toArray, List.set_cons_zero, List.set_cons_succ])
                refine wpAnyH_ready (rs := [6]) (by kernel_rfl) (by simp) ?_
                refine' AllReadyH.cons (o := ?oB6o) ?hB6o ?kB6o AllReadyH.nil
                case hB6o => (simp only [List.getElem?_toArray, List.getElem?_cons_succ, List.getElem?_cons_zero]; rfl)
                case kB6o =>
                  intro K0 hK
                  go_simp
                  go_at_call 18
                  refine (HNd.out wB1 (Asn.blk gy 31 #[.int .i64 0, .int .i64 0, .int .i64 0, .bool false, .string ⟨#[]⟩, .int .i64 0, .slice none 0 0] * Y) SB1'.out).mono ?_
                  rintro e wB ⟨rfl, hX⟩
                  have SB := Lib.hid hX
                  clear hX
                  refine hK.out _ _ ?_ (fun hHeld => ?_)
                  · exact (b_two SB.out)
                  clear hK K0
                  (try simp only [Act.put, List.setIfInBounds_toArray, List.set_cons_zero, List.set_cons_succ])
                  refine' wpAnyH_take (i := 7) (oi := ?onDo7) (v := ?vnDo7) ?hnDo7 ?snDo7 ?fnDo7 ?znDo7 ?qnDo7 ?ynDo7 ?anDo7 ?rnDo7
                  case hnDo7 => (simp only [List.getElem?_toArray, List.getElem?_cons_succ, List.getElem?_cons_zero]; rfl)
                  case snDo7 => kernel_rfl
                  case fnDo7 => kernel_rfl
                  case znDo7 => kernel_rfl
                  case qnDo7 => exact fun _ _ _ h => h
                  case ynDo7 => (refine Or.inl ⟨rfl, ?_⟩; intro w hSw; (try dsimp only at hSw); go_simp; try with_reducible rfl)
                  case anDo7 => assumption
                  case rnDo7 =>
                  simp only [Act.put, List.setIfInBounds_toArray, List.set_cons_zero, List.set_cons_succ]
                  refine' wpAnyH_take (i := 8) (oi := ?onDo8) (v := ?vnDo8) ?hnDo8 ?snDo8 ?fnDo8 ?znDo8 ?qnDo8 ?ynDo8 ?anDo8 ?rnDo8
                  case hnDo8 => (simp only [List.getElem?_toArray, List.getElem?_cons_succ, List.getElem?_cons_zero]; rfl)
                  case snDo8 => kernel_rfl
                  case fnDo8 => kernel_rfl
                  case znDo8 => kernel_rfl
                  case qnDo8 => exact fun _ _ _ h => h
                  case ynDo8 => (refine Or.inl ⟨rfl, ?_⟩; intro w hSw; (try dsimp only at hSw); go_simp; try with_reducible rfl)
                  case anDo8 => assumption
                  case rnDo8 =>
                  simp only [Act.put, List.setIfInBounds_toArray, List.set_cons_zero, List.set_cons_succ]
                  refine' wpAnyH_take (i := 9) (oi := ?onDo9) (v := ?vnDo9) ?hnDo9 ?snDo9 ?fnDo9 ?znDo9 ?qnDo9 ?ynDo9 ?anDo9 ?rnDo9
                  case hnDo9 => (simp only [List.getElem?_toArray, List.getElem?_cons_succ, List.getElem?_cons_zero]; rfl)
                  case snDo9 => kernel_rfl
                  case fnDo9 => kernel_rfl
                  case znDo9 => kernel_rfl
                  case qnDo9 => exact fun _ _ _ h => h
                  case ynDo9 => (refine Or.inl ⟨rfl, ?_⟩; intro w hSw; (try dsimp only at hSw); go_simp; try with_reducible rfl)
                  case anDo9 => assumption
                  case rnDo9 =>
                  simp only [Act.put, List.setIfInBounds_toArray, List.set_cons_zero, List.set_cons_succ]
                  refine wpAnyH_ready (rs := [11]) (by kernel_rfl) (by simp) ?_
                  refine' AllReadyH.cons (o := ?oB11o) ?hB11o ?kB11o AllReadyH.nil
                  case hB11o => (simp only [List.getElem?_toArray, List.getElem?_cons_succ, List.getElem?_cons_zero]; rfl)
                  case kB11o =>
                    intro K0 hK
                    have SB2 := Lib.hid (SB.out.re (show _ = Asn.blk gy 31 #[.int .i64 0, .int .i64 0, .int .i64 0, .bool false, .string ⟨#[]⟩, .int .i64 0, .slice none 0 0] * (aB y k v h (Ls K) s (Asn.blk y.gb 42 (bRow y) * (Asn.blk gx 33 #[.int .i64 5, .int .i64 pg, .int .i64 nd.tree, .int .i64 nd.level, .int .i64 nd.stamp, .bool nd.has, .string (ofL nd.high), .int .i64 nd.right, .slice A1 nd.list.length c1] * (aRt g1 g2 k R * Y)))) by simp only [aB_eq]; ac_rfl))
                    have HSt := Lib.hid (storeN (SB2.out.has (Has.l (has_blk _ _ _))) 0 0 0 0 false ⟨#[]⟩ none 0 0)
                    have SB3 := Lib.hid (own_seven SB2.out (.int .i64 0) (.int .i64 0) (.int .i64 0) (.bool false) (.string ⟨#[]⟩) (.int .i64 0) (.slice none 0 0))
                    refine step_store_w rfl rfl (.tmp 17) (.tmp 227) 31 rfl (.pointer (some ⟨gy, 0, none⟩)) (.agg #[.int .i64 0, .int .i64 0, .int .i64 0, .bool false, .string ⟨#[]⟩, .int .i64 0, .slice none 0 0]) rfl rfl _ HSt.out ?_
                    refine hK.out _ _ ?_ (fun hHeld => ?_)
                    · exact (b_two SB3.out.right)
                    clear hK K0
                    (try simp only [Act.put, List.setIfInBounds_toArray, List.set_cons_zero, List.set_cons_succ])
                    refine' wpAnyH_take (i := 12) (oi := ?onEo12) (v := ?vnEo12) ?hnEo12 ?snEo12 ?fnEo12 ?znEo12 ?qnEo12 ?ynEo12 ?anEo12 ?rnEo12
                    case hnEo12 => (simp only [List.getElem?_toArray, List.getElem?_cons_succ, List.getElem?_cons_zero]; rfl)
                    case snEo12 => kernel_rfl
                    case fnEo12 => kernel_rfl
                    case znEo12 => kernel_rfl
                    case qnEo12 => exact fun _ _ _ h => h
                    case ynEo12 => (refine Or.inl ⟨rfl, ?_⟩; intro w hSw; (try dsimp only at hSw); go_simp; try with_reducible rfl)
                    case anEo12 => assumption
                    case rnEo12 =>
                    simp only [Act.put, List.setIfInBounds_toArray, List.set_cons_zero, List.set_cons_succ]
                    refine wpAnyH_done (by kernel_rfl) ?_ _
                    go_wp2_with fail
                    go_meet
                    case rel => exact ⟨gy, rfl, rfl, SB3⟩

          case rest =>
          -- TAG:5r
          clear S5 S6 HNd tA k0 k1
          obtain ⟨gy, rfl, rfl, S7⟩ := hcut
          as_aux_lemma =>
            have S8 := Lib.hid (S7.out.re (show _ = (Asn.blk gy 31 #[.int .i64 0, .int .i64 0, .int .i64 0, .bool false, .string ⟨#[]⟩, .int .i64 0, .slice none 0 0] * Asn.blk gx 33 #[.int .i64 5, .int .i64 pg, .int .i64 nd.tree, .int .i64 nd.level, .int .i64 nd.stamp, .bool nd.has, .string (ofL nd.high), .int .i64 nd.right, .slice A1 nd.list.length c1]) * aB y k v h (Ls K) s (Asn.blk y.gb 42 (bRow y) * (aRt g1 g2 k R * Y)) by simp only [aB_eq]; ac_rfl)).right
            clear S7
            go_wp2_with fail
            go_roundw
            case rel => exact ⟨i + 1, K, v, h, s, R, by go_num, by omega, by omega, by omega, HM1, HR, S8⟩
            case measure => simp [intOf]; omega
        | true =>
          -- TAG:5i
          have hF := hisc
          subst hF
          obtain ⟨p, rfl, hp⟩ : ∃ p : Nat, pg = p ∧ p < k := ⟨pg.toNat, by have := HIF.out.2 rfl; omega, by have := HIF.out.2 rfl; omega⟩
          have hgp := HG.out.good.page p hp
          obtain ⟨AN, cN, hnv⟩ : ∃ A c, (R p).nv = .slice A (R p).nd.list.length c := (HR.out p hp).slice
          have hl0 : (R p).nd.list.length ≤ 100000 := by have := (goods (fits_good hgp.fits).1).ll; omega
          have HNd : Hid (∀ W Z, Own w No W (aB y k v h (Ls K) s (Asn.blk y.gb 42 (bRow y) * (Asn.blk gx 33 #[.int .i64 5, .int .i64 (p : Int), .int .i64 nd.tree, .int .i64 nd.level, .int .i64 nd.stamp, .bool nd.has, .string (ofL nd.high), .int .i64 nd.right, .slice A1 nd.list.length c1] * (aRt g1 g2 k R * Z)))) → Calls Tryz.prog 18 #[.pointer (some ⟨y.g, 0, none⟩), .int .i64 (p : Int)] W fun e w' => ∃ (v1 : Value) (v7 : Vs) (h7 : Nat → Option Sh), e = .returned (.tuple #[.agg (nodCells (R p).nd v1), .int .i64 0]) ∧ Own w No w' (aEnts (R p).nd v1 * aB y k v7 h7 (Ls K) s (Asn.blk y.gb 42 (bRow y) * (Asn.blk gx 33 #[.int .i64 5, .int .i64 (p : Int), .int .i64 nd.tree, .int .i64 nd.level, .int .i64 nd.stamp, .bool nd.has, .string (ofL nd.high), .int .i64 nd.right, .slice A1 nd.list.length c1] * (aRt g1 g2 k R * Z)))) ∧ Tie k (i + 1) K (Sl.upd R p { R p with held := true }) h7 s) := Lib.hid (fun W Z hW => by
            cases hz : h p with
            | some z =>
              have hzn := hgp.held z hz
              have h1 := bNode_hit y k (by omega) v h HG.out.good.oks (Ls K) s HG.out.good.okd p hp z hz (by rw [hzn]; exact hl0) w W _ hW
              rw [hzn] at h1
              refine h1.mono ?_
              rintro e w' ⟨v1, he, hX⟩
              exact ⟨v1, v, h, he, hX, (tie_held HG.out p hp z hz { R p with held := true } rfl).more⟩
            | none =>
              obtain ⟨t1, ht1, hc1⟩ := tie_miss HG.out p hp hz
              refine (bNode_miss y k (by omega) v h HG.out.good.oks (Ls K) s HG.out.good.okd p hp hz t1 ht1 (R p).nd hc1 hl0 w W _ HT.out hW).mono ?_
              rintro e w' ⟨v1, v7, lv, he, hX⟩
              exact ⟨v1, v7, _, he, hX, (tie_load HG.out p hp hz lv { R p with held := true } rfl).more⟩)
          have hpk : (p : Int) < (k : Int) := by omega
          have HNV := Lib.hid hnv
          obtain ⟨np, hnp⟩ : ∃ np, np = (R p).nd := ⟨_, rfl⟩
          have HNP := Lib.hid hnp
          rw [← hnp] at HNd
          unfold nodCells at HNd
          clear hnv hl0 hgp hnp
          have tA := b_two S6.out
          go_upto_region 54 with fail
          go_cut [17, 18] (fun s17 s18 wx => ∃ (gy : Nat) (v7 : Vs) (h7 : Nat → Option Sh) (AV : Option Addr) (cV : Nat), s17 = .pointer (some ⟨gy, 0, none⟩) ∧ s18 = .int .i64 0 ∧ Hid (Own w No wx (Asn.blk gy 31 #[.int .i64 np.tree, .int .i64 np.level, .int .i64 np.stamp, .bool np.has, .string (ofL np.high), .int .i64 np.right, .slice AV np.list.length cV] * (aEnts np (.slice AV np.list.length cV) * aB y k v7 h7 (Ls K) s (Asn.blk y.gb 42 (bRow y) * (Asn.blk gx 33 #[.int .i64 5, .int .i64 (p : Int), .int .i64 nd.tree, .int .i64 nd.level, .int .i64 nd.stamp, .bool nd.has, .string (ofL nd.high), .int .i64 nd.right, .slice A1 nd.list.length c1] * (aRt g1 g2 k R * Y)))))) ∧ Hid (Tie k (i + 1) K (Sl.upd R p { R p with held := true }) h7 s))
          case first =>
            as_aux_lemma =>
              -- TAG:5f
              clear k0 k1
              refine wp_region_held_drew (S := fun W : World => W.cell? ⟨y.gb, 3, none⟩ = some (.pointer (some ⟨y.g, 0, none⟩)) ∧ W.cell? ⟨gx, 1, none⟩ = some (.int .i64 (p : Int))) (by kernel_rfl) tA (fun hHeld => ?_)
              generalize w5.drew = w6 at *
              refine' wpAnyH_take (i := 0) (oi := ?onAi0) (v := ?vnAi0) ?hnAi0 ?snAi0 ?fnAi0 ?znAi0 ?qnAi0 ?ynAi0 ?anAi0 ?rnAi0
              case hnAi0 => (simp only [List.getElem?_toArray, List.getElem?_cons_succ, List.getElem?_cons_zero]; rfl)
              case snAi0 => kernel_rfl
              case fnAi0 => kernel_rfl
              case znAi0 => kernel_rfl
              case qnAi0 => exact fun _ _ _ h => h
              case ynAi0 => (refine Or.inl ⟨rfl, ?_⟩; intro w hSw; (try dsimp only at hSw); go_simp; try with_reducible rfl)
              case anAi0 => assumption
              case rnAi0 =>
              simp only [Act.put, List.setIfInBounds_toArray, List.set_cons_zero, List.set_cons_succ]
              refine' wpAnyH_take (i := 1) (oi := ?onAi1) (v := ?vnAi1) ?hnAi1 ?snAi1 ?fnAi1 ?znAi1 ?qnAi1 ?ynAi1 ?anAi1 ?rnAi1
              case hnAi1 => (simp only [List.getElem?_toArray, List.getElem?_cons_succ, List.getElem?_cons_zero]; rfl)
              case snAi1 => kernel_rfl
              case fnAi1 => kernel_rfl
              case znAi1 => kernel_rfl
              case qnAi1 => exact fun _ _ _ h => h
              case ynAi1 => (refine Or.inl ⟨rfl, ?_⟩; intro w hSw; (try dsimp only at hSw); go_simp; try with_reducible rfl)
              case anAi1 => assumption
              case rnAi1 =>
              simp only [Act.put, List.setIfInBounds_toArray, List.set_cons_zero, List.set_cons_succ]
              refine' wpAnyH_take (i := 2) (oi := ?onAi2) (v := ?vnAi2) ?hnAi2 ?snAi2 ?fnAi2 ?znAi2 ?qnAi2 ?ynAi2 ?anAi2 ?rnAi2
              case hnAi2 => (simp only [List.getElem?_toArray, List.getElem?_cons_succ, List.getElem?_cons_zero]; rfl)
              case snAi2 => kernel_rfl
              case fnAi2 => kernel_rfl
              case znAi2 => kernel_rfl
              case qnAi2 => exact fun _ _ _ h => h
              case ynAi2 => (refine Or.inl ⟨rfl, ?_⟩; intro w hSw; (try dsimp only at hSw); go_simp; try with_reducible rfl)
              case anAi2 => assumption
              case rnAi2 =>
              simp only [Act.put, List.setIfInBounds_toArray, List.set_cons_zero, List.set_cons_succ]
              refine' wpAnyH_take (i := 3) (oi := ?onAi3) (v := ?vnAi3) ?hnAi3 ?snAi3 ?fnAi3 ?znAi3 ?qnAi3 ?ynAi3 ?anAi3 ?rnAi3
              case hnAi3 => (simp only [List.getElem?_toArray, List.getElem?_cons_succ, List.getElem?_cons_zero]; rfl)
              case snAi3 => kernel_rfl
              case fnAi3 => kernel_rfl
              case znAi3 => kernel_rfl
              case qnAi3 => exact fun _ _ _ h => h
              case ynAi3 => (refine Or.inl ⟨rfl, ?_⟩; intro w hSw; (try dsimp only at hSw); go_simp; try with_reducible rfl)
              case anAi3 => assumption
              case rnAi3 =>
              simp only [Act.put, List.setIfInBounds_toArray, List.set_cons_zero, List.set_cons_succ]
              refine' wpAnyH_take (i := 4) (oi := ?onAi4) (v := ?vnAi4) ?hnAi4 ?snAi4 ?fnAi4 ?znAi4 ?qnAi4 ?ynAi4 ?anAi4 ?rnAi4
              case hnAi4 => (simp only [List.getElem?_toArray, List.getElem?_cons_succ, List.getElem?_cons_zero]; rfl)
              case snAi4 => kernel_rfl
              case fnAi4 => kernel_rfl
              case znAi4 => kernel_rfl
              case qnAi4 => exact fun _ _ _ h => h
              case ynAi4 => (refine Or.inl ⟨rfl, ?_⟩; intro w hSw; (try dsimp only at hSw); go_simp; try with_reducible rfl)
              case anAi4 => assumption
              case rnAi4 =>
              simp only [Act.put, List.setIfInBounds_toArray, List.set_cons_zero, List.set_cons_succ]
              refine' wpAnyH_take (i := 5) (oi := ?onAi5) (v := ?vnAi5) ?hnAi5 ?snAi5 ?fnAi5 ?znAi5 ?qnAi5 ?ynAi5 ?anAi5 ?rnAi5
              case hnAi5 => (simp only [List.getElem?_toArray, List.getElem?_cons_succ, List.getElem?_cons_zero]; rfl)
              case snAi5 => kernel_rfl
              case fnAi5 => kernel_rfl
              case znAi5 => kernel_rfl
              case qnAi5 => exact fun _ _ _ h => h
              case ynAi5 => (refine Or.inl ⟨rfl, ?_⟩; intro w hSw; (try dsimp only at hSw); go_simp; try with_reducible rfl)
              case anAi5 => assumption
              case rnAi5 =>
              simp only [Act.put, List.setIfInBounds_toArray, List.set_cons_zero, List.set_cons_succ]
              refine wpAnyH_ready (rs := [6, 10]) (by kernel_rfl) (by simp) ?_
              refine' AllReadyH.cons (o := ?oA6i) ?hA6i ?kA6i ?mA6i
              case hA6i => (simp only [List.getElem?_toArray, List.getElem?_cons_succ, List.getElem?_cons_zero]; rfl)
              case kA6i =>
                -- TAG:5A
                intro K0 hK
                go_simp
                go_at_call 18
                refine (HNd.out w6 Y S6.out).mono ?_
                rintro e wA ⟨v1, v7, h7, rfl, hX, hT7⟩
                have HT7 := Lib.hid hT7
                obtain ⟨AV, cV, rfl⟩ := (show Own w No wA (Asn.vec 83 3 v1 np.list.length (cells3 np.list) * _) from hX).vec.slice
                have SA := Lib.hid hX
                clear hX hT7
                refine hK.out _ _ ?_ (fun hHeld => ?_)
                · exact (b_two SA.out.right)
                clear hK K0
                (try simp only [Act.put, List.setIfInBounds_toArray, List.set_cons_zero, List.set_cons_succ])
                refine' wpAnyH_take (i := 7) (oi := ?onBi7) (v := ?vnBi7) ?hnBi7 ?snBi7 ?fnBi7 ?znBi7 ?qnBi7 ?ynBi7 ?anBi7 ?rnBi7
                case hnBi7 => (simp only [List.getElem?_toArray, List.getElem?_cons_succ, List.getElem?_cons_zero]; rfl)
                case snBi7 => kernel_rfl
                case fnBi7 => kernel_rfl
                case znBi7 => kernel_rfl
                case qnBi7 => exact fun _ _ _ h => h
                case ynBi7 => (refine Or.inl ⟨rfl, ?_⟩; intro w hSw; (try dsimp only at hSw); go_simp; try with_reducible rfl)
                case anBi7 => assumption
                case rnBi7 =>
                simp only [Act.put, List.setIfInBounds_toArray, List.set_cons_zero, List.set_cons_succ]
                refine' wpAnyH_take (i := 8) (oi := ?onBi8) (v := ?vnBi8) ?hnBi8 ?snBi8 ?fnBi8 ?znBi8 ?qnBi8 ?ynBi8 ?anBi8 ?rnBi8
                case hnBi8 => (simp only [List.getElem?_toArray, List.getElem?_cons_succ, List.getElem?_cons_zero]; rfl)
                case snBi8 => kernel_rfl
                case fnBi8 => kernel_rfl
                case znBi8 => kernel_rfl
                case qnBi8 => exact fun _ _ _ h => h
                case ynBi8 => (refine Or.inl ⟨rfl, ?_⟩; intro w hSw; (try dsimp only at hSw); go_simp; try with_reducible rfl)
                case anBi8 => assumption
                case rnBi8 =>
                simp only [Act.put, List.setIfInBounds_toArray, List.set_cons_zero, List.set_cons_succ]
                refine' wpAnyH_take (i := 9) (oi := ?onBi9) (v := ?vnBi9) ?hnBi9 ?snBi9 ?fnBi9 ?znBi9 ?qnBi9 ?ynBi9 ?anBi9 ?rnBi9
                case hnBi9 => (simp only [List.getElem?_toArray, List.getElem?_cons_succ, List.getElem?_cons_zero]; rfl)
                case snBi9 => kernel_rfl
                case fnBi9 => kernel_rfl
                case znBi9 => kernel_rfl
                case qnBi9 => exact fun _ _ _ h => h
                case ynBi9 => (refine Or.inl ⟨rfl, ?_⟩; intro w hSw; (try dsimp only at hSw); go_simp; try with_reducible rfl)
                case anBi9 => assumption
                case rnBi9 =>
                simp only [Act.put, List.setIfInBounds_toArray, List.set_cons_zero, List.set_cons_succ]
                refine wpAnyH_ready (rs := [10]) (by kernel_rfl) (by simp) ?_
                refine' AllReadyH.cons (o := ?oA10i) ?hA10i ?kA10i AllReadyH.nil
                case hA10i => (simp only [List.getElem?_toArray, List.getElem?_cons_succ, List.getElem?_cons_zero]; rfl)
                case kA10i =>
                  intro K0 hK
                  go_simp
                  have SA2 := Lib.hid (SA.out.alloc zero7 31)
                  unfold zero7 at SA2
                  obtain ⟨gy, hgz⟩ : ∃ g, g = wA.heap.size := ⟨_, rfl⟩
                  rw [← hgz] at SA2 ⊢
                  clear hgz
                  generalize wA.alloc _ = wA2 at *
                  refine hK.out _ _ ?_ (fun hHeld => ?_)
                  · exact (b_two SA2.out.right.right)
                  clear hK K0
                  (try simp only [Act.put, List.setIfInBounds_toArray, List.set_cons_zero, List.set_cons_succ])
                  refine wpAnyH_ready (rs := [11]) (by kernel_rfl) (by simp) ?_
                  refine' AllReadyH.cons (o := ?oA11i) ?hA11i ?kA11i AllReadyH.nil
                  case hA11i => (simp only [List.getElem?_toArray, List.getElem?_cons_succ, List.getElem?_cons_zero]; rfl)
                  case kA11i =>
                    intro K0 hK
                    have HSt := Lib.hid (storeN (SA2.out.has (Has.l (has_blk _ _ _))) np.tree np.level np.stamp np.right np.has (ofL np.high) AV np.list.length cV)
                    have SA3 := Lib.hid (own_seven SA2.out (.int .i64 np.tree) (.int .i64 np.level) (.int .i64 np.stamp) (.bool np.has) (.string (ofL np.high)) (.int .i64 np.right) (.slice AV np.list.length cV))
                    refine step_store_w rfl rfl (.tmp 17) (.tmp 227) 31 rfl (.pointer (some ⟨gy, 0, none⟩)) (.agg #[.int .i64 np.tree, .int .i64 np.level, .int .i64 np.stamp, .bool np.has, .string (ofL np.high), .int .i64 np.right, .slice AV np.list.length cV]) rfl rfl _ HSt.out ?_
                    refine hK.out _ _ ?_ (fun hHeld => ?_)
                    · exact (b_two SA3.out.right.right)
                    clear hK K0
                    (try simp only [Act.put, List.setIfInBounds_toArray, List.set_cons_zero, List.set_cons_succ])
                    refine' wpAnyH_take (i := 12) (oi := ?onCi12) (v := ?vnCi12) ?hnCi12 ?snCi12 ?fnCi12 ?znCi12 ?qnCi12 ?ynCi12 ?anCi12 ?rnCi12
                    case hnCi12 => (simp only [List.getElem?_toArray, List.getElem?_cons_succ, List.getElem?_cons_zero]; rfl)
                    case snCi12 => kernel_rfl
                    case fnCi12 => kernel_rfl
                    case znCi12 => kernel_rfl
                    case qnCi12 => exact fun _ _ _ h => h
                    case ynCi12 => (refine Or.inl ⟨rfl, ?_⟩; intro w hSw; (try dsimp only at hSw); go_simp; try with_reducible rfl)
                    case anCi12 => assumption
                    case rnCi12 =>
                    simp only [Act.put, List.setIfInBounds_toArray, List.set_cons_zero, List.set_cons_succ]
                    refine wpAnyH_done (by kernel_rfl) ?_ _
                    go_wp2_with fail
                    go_meet
                    case rel => exact ⟨gy, v7, h7, AV, cV, rfl, rfl, SA3, HT7⟩
              case mA6i =>
              refine' AllReadyH.cons (o := ?oB10i) ?hB10i ?kB10i AllReadyH.nil
              case hB10i => (simp only [List.getElem?_toArray, List.getElem?_cons_succ, List.getElem?_cons_zero]; rfl)
              case kB10i =>
                -- TAG:5B
                intro K0 hK
                go_simp
                have SB1 := Lib.hid (S6.out.alloc zero7 31)
                unfold zero7 at SB1
                obtain ⟨gy, hgz⟩ : ∃ g, g = w6.heap.size := ⟨_, rfl⟩
                rw [← hgz] at SB1 ⊢
                clear hgz
                generalize w6.alloc _ = wB1 at *
                have SB1' := Lib.hid (SB1.out.re (show _ = aB y k v h (Ls K) s (Asn.blk y.gb 42 (bRow y) * (Asn.blk gx 33 #[.int .i64 5, .int .i64 (p : Int), .int .i64 nd.tree, .int .i64 nd.level, .int .i64 nd.stamp, .bool nd.has, .string (ofL nd.high), .int .i64 nd.right, .slice A1 nd.list.length c1] * (aRt g1 g2 k R * (Asn.blk gy 31 #[.int .i64 0, .int .i64 0, .int .i64 0, .bool false, .string ⟨#[]⟩, .int .i64 0, .slice none 0 0] * Y)))) by simp only [aB_eq]; ac_rfl))
                refine hK.out _ _ ?_ (fun hHeld => ?_)
                · exact (b_two SB1'.out)
                clear hK K0
                (try simp only [Act.put, List.setIfInBounds_toArray, List.set_cons_zero, List.set_cons_succ])
                refine wpAnyH_ready (rs := [6]) (by kernel_rfl) (by simp) ?_
                refine' AllReadyH.cons (o := ?oB6i) ?hB6i ?kB6i AllReadyH.nil
                case hB6i => (simp only [List.getElem?_toArray, List.getElem?_cons_succ, List.getElem?_cons_zero]; rfl)
                case kB6i =>
                  intro K0 hK
                  go_simp
                  go_at_call 18
                  refine (HNd.out wB1 (Asn.blk gy 31 #[.int .i64 0, .int .i64 0, .int .i64 0, .bool false, .string ⟨#[]⟩, .int .i64 0, .slice none 0 0] * Y) SB1'.out).mono ?_
                  rintro e wB ⟨v1, v7, h7, rfl, hX, hT7⟩
                  have HT7 := Lib.hid hT7
                  obtain ⟨AV, cV, rfl⟩ := (show Own w No wB (Asn.vec 83 3 v1 np.list.length (cells3 np.list) * _) from hX).vec.slice
                  have SB := Lib.hid hX
                  clear hX hT7
                  refine hK.out _ _ ?_ (fun hHeld => ?_)
                  · exact (b_two SB.out.right)
                  clear hK K0
                  (try simp only [Act.put, List.setIfInBounds_toArray, List.set_cons_zero, List.set_cons_succ])
                  refine' wpAnyH_take (i := 7) (oi := ?onDi7) (v := ?vnDi7) ?hnDi7 ?snDi7 ?fnDi7 ?znDi7 ?qnDi7 ?ynDi7 ?anDi7 ?rnDi7
                  case hnDi7 => (simp only [List.getElem?_toArray, List.getElem?_cons_succ, List.getElem?_cons_zero]; rfl)
                  case snDi7 => kernel_rfl
                  case fnDi7 => kernel_rfl
                  case znDi7 => kernel_rfl
                  case qnDi7 => exact fun _ _ _ h => h
                  case ynDi7 => (refine Or.inl ⟨rfl, ?_⟩; intro w hSw; (try dsimp only at hSw); go_simp; try with_reducible rfl)
                  case anDi7 => assumption
                  case rnDi7 =>
                  simp only [Act.put, List.setIfInBounds_toArray, List.set_cons_zero, List.set_cons_succ]
                  refine' wpAnyH_take (i := 8) (oi := ?onDi8) (v := ?vnDi8) ?hnDi8 ?snDi8 ?fnDi8 ?znDi8 ?qnDi8 ?ynDi8 ?anDi8 ?rnDi8
                  case hnDi8 => (simp only [List.getElem?_toArray, List.getElem?_cons_succ, List.getElem?_cons_zero]; rfl)
                  case snDi8 => kernel_rfl
                  case fnDi8 => kernel_rfl
                  case znDi8 => kernel_rfl
                  case qnDi8 => exact fun _ _ _ h => h
                  case ynDi8 => (refine Or.inl ⟨rfl, ?_⟩; intro w hSw; (try dsimp only at hSw); go_simp; try with_reducible rfl)
                  case anDi8 => assumption
                  case rnDi8 =>
                  simp only [Act.put, List.setIfInBounds_toArray, List.set_cons_zero, List.set_cons_succ]
                  refine' wpAnyH_take (i := 9) (oi := ?onDi9) (v := ?vnDi9) ?hnDi9 ?snDi9 ?fnDi9 ?znDi9 ?qnDi9 ?ynDi9 ?anDi9 ?rnDi9
                  case hnDi9 => (simp only [List.getElem?_toArray, List.getElem?_cons_succ, List.getElem?_cons_zero]; rfl)
                  case snDi9 => kernel_rfl
                  case fnDi9 => kernel_rfl
                  case znDi9 => kernel_rfl
                  case qnDi9 => exact fun _ _ _ h => h
                  case ynDi9 => (refine Or.inl ⟨rfl, ?_⟩; intro w hSw; (try dsimp only at hSw); go_simp; try with_reducible rfl)
                  case anDi9 => assumption
                  case rnDi9 =>
                  simp only [Act.put, List.setIfInBounds_toArray, List.set_cons_zero, List.set_cons_succ]
                  refine wpAnyH_ready (rs := [11]) (by kernel_rfl) (by simp) ?_
                  refine' AllReadyH.cons (o := ?oB11i) ?hB11i ?kB11i AllReadyH.nil
                  case hB11i => (simp only [List.getElem?_toArray, List.getElem?_cons_succ, List.getElem?_cons_zero]; rfl)
                  case kB11i =>
                    intro K0 hK
                    have SB2 := Lib.hid (SB.out.re (show _ = Asn.blk gy 31 #[.int .i64 0, .int .i64 0, .int .i64 0, .bool false, .string ⟨#[]⟩, .int .i64 0, .slice none 0 0] * (aEnts np (.slice AV np.list.length cV) * (aB y k v7 h7 (Ls K) s (Asn.blk y.gb 42 (bRow y) * (Asn.blk gx 33 #[.int .i64 5, .int .i64 (p : Int), .int .i64 nd.tree, .int .i64 nd.level, .int .i64 nd.stamp, .bool nd.has, .string (ofL nd.high), .int .i64 nd.right, .slice A1 nd.list.length c1] * (aRt g1 g2 k R * Y))))) by simp only [aB_eq]; ac_rfl))
                    have HSt := Lib.hid (storeN (SB2.out.has (Has.l (has_blk _ _ _))) np.tree np.level np.stamp np.right np.has (ofL np.high) AV np.list.length cV)
                    have SB3 := Lib.hid (own_seven SB2.out (.int .i64 np.tree) (.int .i64 np.level) (.int .i64 np.stamp) (.bool np.has) (.string (ofL np.high)) (.int .i64 np.right) (.slice AV np.list.length cV))
                    refine step_store_w rfl rfl (.tmp 17) (.tmp 227) 31 rfl (.pointer (some ⟨gy, 0, none⟩)) (.agg #[.int .i64 np.tree, .int .i64 np.level, .int .i64 np.stamp, .bool np.has, .string (ofL np.high), .int .i64 np.right, .slice AV np.list.length cV]) rfl rfl _ HSt.out ?_
                    refine hK.out _ _ ?_ (fun hHeld => ?_)
                    · exact (b_two SB3.out.right.right)
                    clear hK K0
                    (try simp only [Act.put, List.setIfInBounds_toArray, List.set_cons_zero, List.set_cons_succ])
                    refine' wpAnyH_take (i := 12) (oi := ?onEi12) (v := ?vnEi12) ?hnEi12 ?snEi12 ?fnEi12 ?znEi12 ?qnEi12 ?ynEi12 ?anEi12 ?rnEi12
                    case hnEi12 => (simp only [List.getElem?_toArray, List.getElem?_cons_succ, List.getElem?_cons_zero]; rfl)
                    case snEi12 => kernel_rfl
                    case fnEi12 => kernel_rfl
                    case znEi12 => kernel_rfl
                    case qnEi12 => exact fun _ _ _ h => h
                    case ynEi12 => (refine Or.inl ⟨rfl, ?_⟩; intro w hSw; (try dsimp only at hSw); go_simp; try with_reducible rfl)
                    case anEi12 => assumption
                    case rnEi12 =>
                    simp only [Act.put, List.setIfInBounds_toArray, List.set_cons_zero, List.set_cons_succ]
                    refine wpAnyH_done (by kernel_rfl) ?_ _
                    go_wp2_with fail
                    go_meet
                    case rel => exact ⟨gy, v7, h7, AV, cV, rfl, rfl, SB3, HT7⟩

          case rest =>
          -- TAG:5r
          clear S5 S6 HNd tA k0 k1
          obtain ⟨gy, v7, h7, AV, cV, rfl, rfl, S7, HT7⟩ := hcut
          as_aux_lemma =>
            obtain ⟨w8, rfl⟩ : ∃ w8 : World, w8 = wc := ⟨_, rfl⟩
            obtain ⟨Z, hZ⟩ : ∃ Z, Z = Asn.blk gy 31 #[.int .i64 np.tree, .int .i64 np.level, .int .i64 np.stamp, .bool np.has, .string (ofL np.high), .int .i64 np.right, .slice AV np.list.length cV] * (aEnts np (.slice AV np.list.length cV) * Y) := ⟨_, rfl⟩
            have HZ := Lib.hid hZ
            have S8 := Lib.hid (S7.out.re (show _ = aB y k v7 h7 (Ls K) s (Asn.blk y.gb 42 (bRow y) * (Asn.blk gx 33 #[.int .i64 5, .int .i64 (p : Int), .int .i64 nd.tree, .int .i64 nd.level, .int .i64 nd.stamp, .bool nd.has, .string (ofL nd.high), .int .i64 nd.right, .slice A1 nd.list.length c1] * (aRt g1 g2 k R * Z))) by rw [hZ]; simp only [aB_eq]; ac_rfl))
            clear hZ S7
            go_upto_region 58 with fail
            refine wp_region_still_tail 8 (by kernel_rfl) (by kernel_rfl) ?_
            simp only [List.take_succ_cons, List.take_zero, List.drop_succ_cons, List.drop_zero]
            change wpStill _ _ w8.drew _ _ _
            have S9d := Lib.hid S8.out.drew
            obtain ⟨-, k1, -⟩ := b_all S9d.out
            obtain ⟨t0, -⟩ := b_top S9d.out
            have hpk' : (p : Int) < (k : Int) := by omega
            repeat still_step
            refine wpStill_nil ?_
            change wpList _ _ _ _ _ w8.drew
            generalize w8.drew = w10 at *
            have S10 := S9d.out.re (show _ = Asn.vec 59 10 (.slice (some ⟨g2, 0, none⟩) k k) k (rps k R) * (Asn.blk g1 62 #[.slice (some ⟨g2, 0, none⟩) k k] * (aU R k * (Asn.blk gx 33 #[.int .i64 5, .int .i64 (p : Int), .int .i64 nd.tree, .int .i64 nd.level, .int .i64 nd.stamp, .bool nd.has, .string (ofL nd.high), .int .i64 nd.right, .slice A1 nd.list.length c1] * aB y k v7 h7 (Ls K) s (Asn.blk y.gb 42 (bRow y) * Z)))) by unfold aRt; simp only [aB_eq]; ac_rfl)
            have q9 := S10.vec.cell (rps_at k R p 9 hp (by decide))
            have f9 := S10.vec.free (p * 10 + 9)
            have S11 := S10.set (Sets.l (sets_vec _ _ _ _ _ _ (p * 10 + 9) (by omega) (.bool true)))
            rw [rps_held k R p hp true, rt_upd g1 g2 k R p hp true] at S11
            have S12 := Lib.hid S11
            clear S9d S10 S11 k1
            go_upto_region 59 with fail
            clear q9 f9 t0 S8
            have HR2 := Lib.hid (upd_row HR.out p { R p with held := true } (Or.inr (Or.inl ⟨rfl, rfl⟩)))
            have S13 := Lib.hid (S12.out.re (show _ = aB y k v7 h7 (Ls K) s (Asn.blk y.gb 42 (bRow y) * (Asn.blk gx 33 #[.int .i64 5, .int .i64 (p : Int), .int .i64 nd.tree, .int .i64 nd.level, .int .i64 nd.stamp, .bool nd.has, .string (ofL nd.high), .int .i64 nd.right, .slice A1 nd.list.length c1] * (aRt g1 g2 k (Sl.upd R p { R p with held := true }) * Z))) by simp only [aB_eq]; ac_rfl))
            clear S12
            generalize World.setCell _ _ _ = w11 at *
            obtain ⟨R2, hR2⟩ : ∃ R2, R2 = Sl.upd R p { R p with held := true } := ⟨_, rfl⟩
            rw [← hR2] at S13 HR2 HT7
            have e2 : R2 p = { R p with held := true } := by rw [hR2, Sl.upd_same]
            have FF : Hid (∀ W, Own w No W (aB y k v7 h7 (Ls K) s (Asn.blk y.gb 42 (bRow y) * (Asn.blk gx 33 #[.int .i64 5, .int .i64 (p : Int), .int .i64 nd.tree, .int .i64 nd.level, .int .i64 nd.stamp, .bool nd.has, .string (ofL nd.high), .int .i64 nd.right, .slice A1 nd.list.length c1] * (aRt g1 g2 k R2 * Z)))) → W.cell? ⟨gx, 1, none⟩ = some (.int .i64 (p : Int)) ∧ W.cell? ⟨g1, 0, none⟩ = some (.slice (some ⟨g2, 0, none⟩) k k) ∧ W.cell? ⟨gy, 0, none⟩ = some (.int .i64 np.tree) ∧ W.cell? ⟨gy, 1, none⟩ = some (.int .i64 np.level) ∧ W.cell? ⟨gy, 2, none⟩ = some (.int .i64 np.stamp) ∧ W.cell? ⟨gy, 3, none⟩ = some (.bool np.has) ∧ W.cell? ⟨gy, 4, none⟩ = some (.string (ofL np.high)) ∧ W.cell? ⟨gy, 5, none⟩ = some (.int .i64 np.right) ∧ W.cell? ⟨gy, 6, none⟩ = some (.slice AV np.list.length cV) ∧ W.cell? ⟨g2, p * 10, none⟩ = some (.int .i64 np.tree) ∧ W.cell? ⟨g2, p * 10 + 1, none⟩ = some (.int .i64 np.level) ∧ W.cell? ⟨g2, p * 10 + 2, none⟩ = some (.int .i64 np.stamp) ∧ W.cell? ⟨g2, p * 10 + 3, none⟩ = some (.bool np.has) ∧ W.cell? ⟨g2, p * 10 + 4, none⟩ = some (.string (ofL np.high)) ∧ W.cell? ⟨g2, p * 10 + 5, none⟩ = some (.int .i64 np.right) ∧ W.cell? ⟨g2, p * 10 + 6, none⟩ = some (.slice AN np.list.length cN)) := Lib.hid fun W hW => by
              obtain ⟨t0, tp⟩ := b_top hW
              have hy := hW
              rw [HZ.out] at hy
              have hb : Blk W gy 31 #[.int .i64 np.tree, .int .i64 np.level, .int .i64 np.stamp, .bool np.has, .string (ofL np.high), .int .i64 np.right, .slice AV np.list.length cV] := (hy.re (show _ = Asn.blk gy 31 #[.int .i64 np.tree, .int .i64 np.level, .int .i64 np.stamp, .bool np.has, .string (ofL np.high), .int .i64 np.right, .slice AV np.list.length cV] * (aEnts np (.slice AV np.list.length cV) * aB y k v7 h7 (Ls K) s (Asn.blk y.gb 42 (bRow y) * (Asn.blk gx 33 #[.int .i64 5, .int .i64 (p : Int), .int .i64 nd.tree, .int .i64 nd.level, .int .i64 nd.stamp, .bool nd.has, .string (ofL nd.high), .int .i64 nd.right, .slice A1 nd.list.length c1] * (aRt g1 g2 k R2 * Y)))) by simp only [aB_eq]; ac_rfl)).has (Has.l (has_blk _ _ _))
              have hq : ∀ j u, j < 10 → (rpCells { R p with held := true })[j]? = some u → W.cell? ⟨g2, p * 10 + j, none⟩ = some u := fun j u hj hu => tp p j hp hj u (by rw [e2]; exact hu)
              rw [HNP.out]
              rw [HNP.out] at hb
              exact ⟨(b_act hW).cell 1, t0, hb.cell 0, hb.cell 1, hb.cell 2, hb.cell 3, hb.cell 4, hb.cell 5, hb.cell 6, hq 0 _ (by decide) rfl, hq 1 _ (by decide) rfl, hq 2 _ (by decide) rfl, hq 3 _ (by decide) rfl, hq 4 _ (by decide) rfl, hq 5 _ (by decide) rfl, hq 6 _ (by decide) (by rw [← HNV.out]; rfl)⟩
            have tA := FF.out _ S13.out.drew
            have HSm := Lib.hid (refSame_any np np (.agg (nodCells np (.slice AV np.list.length cV))) (.agg (nodCells np (.slice AN np.list.length cN))) w11.drew
              (by
                have hy := S13.out.drew
                rw [HZ.out] at hy
                exact ents_at (hy.re (show _ = aEnts np (.slice AV np.list.length cV) * (Asn.blk gy 31 #[.int .i64 np.tree, .int .i64 np.level, .int .i64 np.stamp, .bool np.has, .string (ofL np.high), .int .i64 np.right, .slice AV np.list.length cV] * aB y k v7 h7 (Ls K) s (Asn.blk y.gb 42 (bRow y) * (Asn.blk gx 33 #[.int .i64 5, .int .i64 (p : Int), .int .i64 nd.tree, .int .i64 nd.level, .int .i64 nd.stamp, .bool nd.has, .string (ofL nd.high), .int .i64 nd.right, .slice A1 nd.list.length c1] * (aRt g1 g2 k R2 * Y)))) by simp only [aB_eq]; ac_rfl)).left)
              ⟨_, rfl, by have h1 := (HR.out p hp).keep S13.out.drew.bel; rw [HNV.out, ← HNP.out] at h1; exact h1⟩)
            unfold nodCells at HSm
            rw [decide_eq_true rfl] at HSm
            clear hR2 e2
            go_region_held3 (fun W : World => W.cell? ⟨gx, 1, none⟩ = some (.int .i64 (p : Int)) ∧ W.cell? ⟨g1, 0, none⟩ = some (.slice (some ⟨g2, 0, none⟩) k k) ∧ W.cell? ⟨gy, 0, none⟩ = some (.int .i64 np.tree) ∧ W.cell? ⟨gy, 1, none⟩ = some (.int .i64 np.level) ∧ W.cell? ⟨gy, 2, none⟩ = some (.int .i64 np.stamp) ∧ W.cell? ⟨gy, 3, none⟩ = some (.bool np.has) ∧ W.cell? ⟨gy, 4, none⟩ = some (.string (ofL np.high)) ∧ W.cell? ⟨gy, 5, none⟩ = some (.int .i64 np.right) ∧ W.cell? ⟨gy, 6, none⟩ = some (.slice AV np.list.length cV) ∧ W.cell? ⟨g2, p * 10, none⟩ = some (.int .i64 np.tree) ∧ W.cell? ⟨g2, p * 10 + 1, none⟩ = some (.int .i64 np.level) ∧ W.cell? ⟨g2, p * 10 + 2, none⟩ = some (.int .i64 np.stamp) ∧ W.cell? ⟨g2, p * 10 + 3, none⟩ = some (.bool np.has) ∧ W.cell? ⟨g2, p * 10 + 4, none⟩ = some (.string (ofL np.high)) ∧ W.cell? ⟨g2, p * 10 + 5, none⟩ = some (.int .i64 np.right) ∧ W.cell? ⟨g2, p * 10 + 6, none⟩ = some (.slice AN np.list.length cN)) (first | exact tA | exact tC) (first | (go_at_call 19; refine HSm.out.mono ?_; rintro e w12 ⟨rfl, hX⟩; have S14 := Lib.hid (S13.out.drew.below hX); have tC := FF.out _ S14.out))
            have S15 := Lib.hid (S14.out.re (show _ = Asn.blk gx 33 #[.int .i64 5, .int .i64 (p : Int), .int .i64 nd.tree, .int .i64 nd.level, .int .i64 nd.stamp, .bool nd.has, .string (ofL nd.high), .int .i64 nd.right, .slice A1 nd.list.length c1] * (aB y k v7 h7 (Ls K) s (Asn.blk y.gb 42 (bRow y) * (aRt g1 g2 k R2 * Z))) by simp only [aB_eq]; ac_rfl)).right
            rw [HZ.out] at S15
            have S16 := Lib.hid (S15.out.re (show _ = (Asn.blk gy 31 #[.int .i64 np.tree, .int .i64 np.level, .int .i64 np.stamp, .bool np.has, .string (ofL np.high), .int .i64 np.right, .slice AV np.list.length cV] * aEnts np (.slice AV np.list.length cV)) * (aB y k v7 h7 (Ls K) s (Asn.blk y.gb 42 (bRow y) * (aRt g1 g2 k R2 * Y))) by simp only [aB_eq]; ac_rfl)).right
            clear S13 S14 S15 HSm tA tC FF HZ
            have HTo := Lib.hid (told_any k (i + 1) K (by omega) (by omega) y v7 _ _ _ g1 g2 HT7.out w _ _ HR2.out S16.out)
            go_wp2_with fail
            refine HTo.out.mono ?_
            rintro e w9 ⟨rfl, hX⟩
            have S9 := Lib.hid hX
            clear hX HTo S16
            go_wp2_with fail
            go_roundw
            case rel => exact ⟨i + 1, K, v7, _, _, _, by go_num, by omega, by omega, by omega, HT7, HR2, S9⟩
            case measure => simp [intOf]; omega
      have m5' : (kd == 5) = false := beq_eq_false_iff_ne.2 hk5
      have HM1 := Lib.hid HG.out.more
      obtain ⟨c3', k1', -⟩ := b_all S5.out
      by_cases hr : 1 ≤ pg ∧ pg ≤ 2147483647
      · as_aux_lemma =>
          have d1 : decide (pg < 1) = false := decide_eq_false (by omega)
          have d2 : decide (2147483647 < pg) = false := decide_eq_false (by omega)
          go_upto_region 16 with fail
          go_quiet (fail)
          have S8 := Lib.hid ((S5.out.drewN nq).re (show _ = Asn.blk gx 33 #[.int .i64 kd, .int .i64 pg, .int .i64 nd.tree, .int .i64 nd.level, .int .i64 nd.stamp, .bool nd.has, .string (ofL nd.high), .int .i64 nd.right, .slice A1 nd.list.length c1] * aB y k v h (Ls K) s (Asn.blk y.gb 42 (bRow y) * (aRt g1 g2 k R * Y)) by simp only [aB_eq]; ac_rfl)).right
          clear S5 k0 k1 k1' c3' 
          have HTo := Lib.hid (told_any k (i + 1) K (by omega) (by omega) y v _ _ _ g1 g2 HM1.out w _ _ HR.out S8.out)
          go_wp2_with fail
          refine HTo.out.mono ?_
          rintro e w9 ⟨rfl, hX⟩
          have S9 := Lib.hid hX
          clear hX HTo S8
          go_wp2_with fail
          go_roundw
          case rel => exact ⟨i + 1, K, v, _, _, _, by go_num, by omega, by omega, by omega, HM1, HR, S9⟩
          case measure => simp [intOf]; omega
      · have HPA := Lib.hid (fun v w => put_arg (g := y.g) pg (by omega) v w)
        unfold tPtr at HPA
        have S6B := ((S5.out.below (blA (Below.refl _ _) (.cells #[.int .i64 0, .int .i64 0, .int .i64 0, .int .i64 0, .bool false, .string ⟨#[]⟩, .int .i64 0, .slice none 0 0] 53))).drew)
        have HSB := Lib.hid S6B
        clear S6B
        have tA := b_all S5.out.drew
        have tB := b_all HSB.out
        by_cases d1' : pg < 1
        · as_aux_lemma =>
            have d1 : decide (pg < 1) = true := decide_eq_true d1'
            go_upto_region 16 with fail
            clear k0 k1 k1' c3'
            refine wp_region_held_drew (S := fun W : World => W.cell? ⟨y.gb, 3, none⟩ = some (.pointer (some ⟨y.g, 0, none⟩)) ∧ W.cell? ⟨gx, 1, none⟩ = some (.int .i64 pg) ∧ W.cell? ⟨gx, 2, none⟩ = some (.int .i64 nd.tree) ∧ W.cell? ⟨gx, 3, none⟩ = some (.int .i64 nd.level) ∧ W.cell? ⟨gx, 4, none⟩ = some (.int .i64 nd.stamp) ∧ W.cell? ⟨gx, 5, none⟩ = some (.bool nd.has) ∧ W.cell? ⟨gx, 6, none⟩ = some (.string (ofL nd.high)) ∧ W.cell? ⟨gx, 7, none⟩ = some (.int .i64 nd.right) ∧ W.cell? ⟨gx, 8, none⟩ = some (.slice A1 nd.list.length c1)) (by kernel_rfl) tA (fun hHeld => ?_)
            refine' wpAnyH_take (i := 0) (oi := ?ozza0) (v := ?vzza0) ?hzza0 ?szza0 ?fzza0 ?zzza0 ?qzza0 ?yzza0 ?azza0 ?rzza0
            case hzza0 => (simp only [List.getElem?_toArray, List.getElem?_cons_succ, List.getElem?_cons_zero]; rfl)
            case szza0 => kernel_rfl
            case fzza0 => kernel_rfl
            case zzza0 => kernel_rfl
            case qzza0 => exact fun _ _ _ h => h
            case yzza0 => (refine Or.inl ⟨rfl, ?_⟩; intro w hSw; (try dsimp only at hSw); go_simp; try with_reducible rfl)
            case azza0 => assumption
            case rzza0 =>
            simp only [Act.put, List.setIfInBounds_toArray, List.set_cons_zero, List.set_cons_succ]
            refine' wpAnyH_take (i := 1) (oi := ?ozza1) (v := ?vzza1) ?hzza1 ?szza1 ?fzza1 ?zzza1 ?qzza1 ?yzza1 ?azza1 ?rzza1
            case hzza1 => (simp only [List.getElem?_toArray, List.getElem?_cons_succ, List.getElem?_cons_zero]; rfl)
            case szza1 => kernel_rfl
            case fzza1 => kernel_rfl
            case zzza1 => kernel_rfl
            case qzza1 => exact fun _ _ _ h => h
            case yzza1 => (refine Or.inl ⟨rfl, ?_⟩; intro w hSw; (try dsimp only at hSw); go_simp; try with_reducible rfl)
            case azza1 => assumption
            case rzza1 =>
            simp only [Act.put, List.setIfInBounds_toArray, List.set_cons_zero, List.set_cons_succ]
            refine' wpAnyH_take (i := 2) (oi := ?ozza2) (v := ?vzza2) ?hzza2 ?szza2 ?fzza2 ?zzza2 ?qzza2 ?yzza2 ?azza2 ?rzza2
            case hzza2 => (simp only [List.getElem?_toArray, List.getElem?_cons_succ, List.getElem?_cons_zero]; rfl)
            case szza2 => kernel_rfl
            case fzza2 => kernel_rfl
            case zzza2 => kernel_rfl
            case qzza2 => exact fun _ _ _ h => h
            case yzza2 => (refine Or.inl ⟨rfl, ?_⟩; intro w hSw; (try dsimp only at hSw); go_simp; try with_reducible rfl)
            case azza2 => assumption
            case rzza2 =>
            simp only [Act.put, List.setIfInBounds_toArray, List.set_cons_zero, List.set_cons_succ]
            refine' wpAnyH_take (i := 3) (oi := ?ozza3) (v := ?vzza3) ?hzza3 ?szza3 ?fzza3 ?zzza3 ?qzza3 ?yzza3 ?azza3 ?rzza3
            case hzza3 => (simp only [List.getElem?_toArray, List.getElem?_cons_succ, List.getElem?_cons_zero]; rfl)
            case szza3 => kernel_rfl
            case fzza3 => kernel_rfl
            case zzza3 => kernel_rfl
            case qzza3 => exact fun _ _ _ h => h
            case yzza3 => (refine Or.inl ⟨rfl, ?_⟩; intro w hSw; (try dsimp only at hSw); go_simp; try with_reducible rfl)
            case azza3 => assumption
            case rzza3 =>
            simp only [Act.put, List.setIfInBounds_toArray, List.set_cons_zero, List.set_cons_succ]
            refine' wpAnyH_take (i := 4) (oi := ?ozza4) (v := undef) ?hzza4 ?szza4 ?fzza4 ?zzza4 ?qzza4 ?yzza4 ?azza4 ?rzza4
            case hzza4 => (simp only [List.getElem?_toArray, List.getElem?_cons_succ, List.getElem?_cons_zero]; rfl)
            case szza4 => kernel_rfl
            case fzza4 => kernel_rfl
            case zzza4 => kernel_rfl
            case qzza4 => exact fun _ _ _ h => h
            case yzza4 => exact Or.inr ⟨rfl, rfl⟩
            case azza4 => assumption
            case rzza4 =>
            simp only [Act.put, List.setIfInBounds_toArray, List.set_cons_zero, List.set_cons_succ]
            refine' wpAnyH_take (i := 5) (oi := ?ozza5) (v := undef) ?hzza5 ?szza5 ?fzza5 ?zzza5 ?qzza5 ?yzza5 ?azza5 ?rzza5
            case hzza5 => (simp only [List.getElem?_toArray, List.getElem?_cons_succ, List.getElem?_cons_zero]; rfl)
            case szza5 => kernel_rfl
            case fzza5 => kernel_rfl
            case zzza5 => kernel_rfl
            case qzza5 => exact fun _ _ _ h => h
            case yzza5 => exact Or.inr ⟨rfl, rfl⟩
            case azza5 => assumption
            case rzza5 =>
            simp only [Act.put, List.setIfInBounds_toArray, List.set_cons_zero, List.set_cons_succ]
            refine' wpAnyH_take (i := 6) (oi := ?ozza6) (v := undef) ?hzza6 ?szza6 ?fzza6 ?zzza6 ?qzza6 ?yzza6 ?azza6 ?rzza6
            case hzza6 => (simp only [List.getElem?_toArray, List.getElem?_cons_succ, List.getElem?_cons_zero]; rfl)
            case szza6 => kernel_rfl
            case fzza6 => kernel_rfl
            case zzza6 => kernel_rfl
            case qzza6 => exact fun _ _ _ h => h
            case yzza6 => exact Or.inr ⟨rfl, rfl⟩
            case azza6 => assumption
            case rzza6 =>
            simp only [Act.put, List.setIfInBounds_toArray, List.set_cons_zero, List.set_cons_succ]
            refine' wpAnyH_take (i := 7) (oi := ?ozza7) (v := ?vzza7) ?hzza7 ?szza7 ?fzza7 ?zzza7 ?qzza7 ?yzza7 ?azza7 ?rzza7
            case hzza7 => (simp only [List.getElem?_toArray, List.getElem?_cons_succ, List.getElem?_cons_zero]; rfl)
            case szza7 => kernel_rfl
            case fzza7 => kernel_rfl
            case zzza7 => kernel_rfl
            case qzza7 => exact fun _ _ _ h => h
            case yzza7 => (refine Or.inl ⟨rfl, ?_⟩; intro w hSw; (try dsimp only at hSw); go_simp; try with_reducible rfl)
            case azza7 => assumption
            case rzza7 =>
            simp only [Act.put, List.setIfInBounds_toArray, List.set_cons_zero, List.set_cons_succ]
            refine' wpAnyH_take (i := 8) (oi := ?ozza8) (v := ?vzza8) ?hzza8 ?szza8 ?fzza8 ?zzza8 ?qzza8 ?yzza8 ?azza8 ?rzza8
            case hzza8 => (simp only [List.getElem?_toArray, List.getElem?_cons_succ, List.getElem?_cons_zero]; rfl)
            case szza8 => kernel_rfl
            case fzza8 => kernel_rfl
            case zzza8 => kernel_rfl
            case qzza8 => exact fun _ _ _ h => h
            case yzza8 => (refine Or.inl ⟨rfl, ?_⟩; intro w hSw; (try dsimp only at hSw); go_simp; try with_reducible rfl)
            case azza8 => assumption
            case rzza8 =>
            simp only [Act.put, List.setIfInBounds_toArray, List.set_cons_zero, List.set_cons_succ]
            refine' wpAnyH_take (i := 9) (oi := ?ozza9) (v := ?vzza9) ?hzza9 ?szza9 ?fzza9 ?zzza9 ?qzza9 ?yzza9 ?azza9 ?rzza9
            case hzza9 => (simp only [List.getElem?_toArray, List.getElem?_cons_succ, List.getElem?_cons_zero]; rfl)
            case szza9 => kernel_rfl
            case fzza9 => kernel_rfl
            case zzza9 => kernel_rfl
            case qzza9 => exact fun _ _ _ h => h
            case yzza9 => (refine Or.inl ⟨rfl, ?_⟩; intro w hSw; (try dsimp only at hSw); go_simp; try with_reducible rfl)
            case azza9 => assumption
            case rzza9 =>
            simp only [Act.put, List.setIfInBounds_toArray, List.set_cons_zero, List.set_cons_succ]
            refine' wpAnyH_take (i := 10) (oi := ?ozza10) (v := ?vzza10) ?hzza10 ?szza10 ?fzza10 ?zzza10 ?qzza10 ?yzza10 ?azza10 ?rzza10
            case hzza10 => (simp only [List.getElem?_toArray, List.getElem?_cons_succ, List.getElem?_cons_zero]; rfl)
            case szza10 => kernel_rfl
            case fzza10 => kernel_rfl
            case zzza10 => kernel_rfl
            case qzza10 => exact fun _ _ _ h => h
            case yzza10 => (refine Or.inl ⟨rfl, ?_⟩; intro w hSw; (try dsimp only at hSw); go_simp; try with_reducible rfl)
            case azza10 => assumption
            case rzza10 =>
            simp only [Act.put, List.setIfInBounds_toArray, List.set_cons_zero, List.set_cons_succ]
            refine' wpAnyH_take (i := 11) (oi := ?ozza11) (v := ?vzza11) ?hzza11 ?szza11 ?fzza11 ?zzza11 ?qzza11 ?yzza11 ?azza11 ?rzza11
            case hzza11 => (simp only [List.getElem?_toArray, List.getElem?_cons_succ, List.getElem?_cons_zero]; rfl)
            case szza11 => kernel_rfl
            case fzza11 => kernel_rfl
            case zzza11 => kernel_rfl
            case qzza11 => exact fun _ _ _ h => h
            case yzza11 => (refine Or.inl ⟨rfl, ?_⟩; intro w hSw; (try dsimp only at hSw); go_simp; try with_reducible rfl)
            case azza11 => assumption
            case rzza11 =>
            simp only [Act.put, List.setIfInBounds_toArray, List.set_cons_zero, List.set_cons_succ]
            refine' wpAnyH_take (i := 12) (oi := ?ozza12) (v := ?vzza12) ?hzza12 ?szza12 ?fzza12 ?zzza12 ?qzza12 ?yzza12 ?azza12 ?rzza12
            case hzza12 => (simp only [List.getElem?_toArray, List.getElem?_cons_succ, List.getElem?_cons_zero]; rfl)
            case szza12 => kernel_rfl
            case fzza12 => kernel_rfl
            case zzza12 => kernel_rfl
            case qzza12 => exact fun _ _ _ h => h
            case yzza12 => (refine Or.inl ⟨rfl, ?_⟩; intro w hSw; (try dsimp only at hSw); go_simp; try with_reducible rfl)
            case azza12 => assumption
            case rzza12 =>
            simp only [Act.put, List.setIfInBounds_toArray, List.set_cons_zero, List.set_cons_succ]
            refine' wpAnyH_take (i := 13) (oi := ?ozza13) (v := ?vzza13) ?hzza13 ?szza13 ?fzza13 ?zzza13 ?qzza13 ?yzza13 ?azza13 ?rzza13
            case hzza13 => (simp only [List.getElem?_toArray, List.getElem?_cons_succ, List.getElem?_cons_zero]; rfl)
            case szza13 => kernel_rfl
            case fzza13 => kernel_rfl
            case zzza13 => kernel_rfl
            case qzza13 => exact fun _ _ _ h => h
            case yzza13 => (refine Or.inl ⟨rfl, ?_⟩; intro w hSw; (try dsimp only at hSw); go_simp; try with_reducible rfl)
            case azza13 => assumption
            case rzza13 =>
            simp only [Act.put, List.setIfInBounds_toArray, List.set_cons_zero, List.set_cons_succ]
            refine' wpAnyH_take (i := 14) (oi := ?ozza14) (v := ?vzza14) ?hzza14 ?szza14 ?fzza14 ?zzza14 ?qzza14 ?yzza14 ?azza14 ?rzza14
            case hzza14 => (simp only [List.getElem?_toArray, List.getElem?_cons_succ, List.getElem?_cons_zero]; rfl)
            case szza14 => kernel_rfl
            case fzza14 => kernel_rfl
            case zzza14 => kernel_rfl
            case qzza14 => exact fun _ _ _ h => h
            case yzza14 => (refine Or.inl ⟨rfl, ?_⟩; intro w hSw; (try dsimp only at hSw); go_simp; try with_reducible rfl)
            case azza14 => assumption
            case rzza14 =>
            simp only [Act.put, List.setIfInBounds_toArray, List.set_cons_zero, List.set_cons_succ]
            refine' wpAnyH_take (i := 15) (oi := ?ozza15) (v := ?vzza15) ?hzza15 ?szza15 ?fzza15 ?zzza15 ?qzza15 ?yzza15 ?azza15 ?rzza15
            case hzza15 => (simp only [List.getElem?_toArray, List.getElem?_cons_succ, List.getElem?_cons_zero]; rfl)
            case szza15 => kernel_rfl
            case fzza15 => kernel_rfl
            case zzza15 => kernel_rfl
            case qzza15 => exact fun _ _ _ h => h
            case yzza15 => (refine Or.inl ⟨rfl, ?_⟩; intro w hSw; (try dsimp only at hSw); go_simp; try with_reducible rfl)
            case azza15 => assumption
            case rzza15 =>
            simp only [Act.put, List.setIfInBounds_toArray, List.set_cons_zero, List.set_cons_succ]
            clear d1 d1' hr
            refine wpAnyH_ready (rs := [16]) (by kernel_rfl) (by simp) ?_
            refine' AllReadyH.cons (o := ?ozza16) ?hzza16 ?kzza16 AllReadyH.nil
            case hzza16 => (simp only [List.getElem?_toArray, List.getElem?_cons_succ, List.getElem?_cons_zero]; rfl)
            case kzza16 =>
            intro K hK
            refine step_bs_w rfl 94 (.tmp 74) rfl _ rfl _ _ (run_bs _ 0 0 0 0 0 false ⟨#[]⟩ none 0 0) ?_
            refine hK.out _ _ ?_ (fun hHeld => ?_)
            · exact tB
            clear hK K
            (try simp only [Act.put, List.setIfInBounds_toArray, List.set_cons_zero, List.set_cons_succ])
            refine wpAnyH_ready (rs := [17]) (by kernel_rfl) (by simp) ?_
            refine' AllReadyH.cons (o := ?ozza17) ?hzza17 ?kzza17 AllReadyH.nil
            case hzza17 => (simp only [List.getElem?_toArray, List.getElem?_cons_succ, List.getElem?_cons_zero]; rfl)
            case kzza17 =>
            intro K hK
            go_simp
            go_at_call 9
            refine (HPA.out _ _).mono ?_
            rintro e w7 ⟨rfl, hX⟩
            have S7 := Lib.hid (HSB.out.below hX)
            have tC := b_all S7.out
            refine hK.out _ _ ?_ (fun hHeld => ?_)
            · exact tC
            clear hK K
            (try simp only [Act.put, List.setIfInBounds_toArray, List.set_cons_zero, List.set_cons_succ])
            refine' wpAnyH_take (i := 18) (oi := ?ozza18) (v := ?vzza18) ?hzza18 ?szza18 ?fzza18 ?zzza18 ?qzza18 ?yzza18 ?azza18 ?rzza18
            case hzza18 => (simp only [List.getElem?_toArray, List.getElem?_cons_succ, List.getElem?_cons_zero]; rfl)
            case szza18 => kernel_rfl
            case fzza18 => kernel_rfl
            case zzza18 => kernel_rfl
            case qzza18 => exact fun _ _ _ h => h
            case yzza18 => (refine Or.inl ⟨rfl, ?_⟩; intro w hSw; (try dsimp only at hSw); go_simp; try with_reducible rfl)
            case azza18 => assumption
            case rzza18 =>
            simp only [Act.put, List.setIfInBounds_toArray, List.set_cons_zero, List.set_cons_succ]
            refine' wpAnyH_take (i := 19) (oi := ?ozza19) (v := ?vzza19) ?hzza19 ?szza19 ?fzza19 ?zzza19 ?qzza19 ?yzza19 ?azza19 ?rzza19
            case hzza19 => (simp only [List.getElem?_toArray, List.getElem?_cons_succ, List.getElem?_cons_zero]; rfl)
            case szza19 => kernel_rfl
            case fzza19 => kernel_rfl
            case zzza19 => kernel_rfl
            case qzza19 => exact fun _ _ _ h => h
            case yzza19 => (refine Or.inl ⟨rfl, ?_⟩; intro w hSw; (try dsimp only at hSw); go_simp; try with_reducible rfl)
            case azza19 => assumption
            case rzza19 =>
            simp only [Act.put, List.setIfInBounds_toArray, List.set_cons_zero, List.set_cons_succ]
            refine' wpAnyH_take (i := 20) (oi := ?ozza20) (v := ?vzza20) ?hzza20 ?szza20 ?fzza20 ?zzza20 ?qzza20 ?yzza20 ?azza20 ?rzza20
            case hzza20 => (simp only [List.getElem?_toArray, List.getElem?_cons_succ, List.getElem?_cons_zero]; rfl)
            case szza20 => kernel_rfl
            case fzza20 => kernel_rfl
            case zzza20 => kernel_rfl
            case qzza20 => exact fun _ _ _ h => h
            case yzza20 => (refine Or.inl ⟨rfl, ?_⟩; intro w hSw; (try dsimp only at hSw); go_simp; try with_reducible rfl)
            case azza20 => assumption
            case rzza20 =>
            simp only [Act.put, List.setIfInBounds_toArray, List.set_cons_zero, List.set_cons_succ]
            refine' wpAnyH_take (i := 21) (oi := ?ozza21) (v := ?vzza21) ?hzza21 ?szza21 ?fzza21 ?zzza21 ?qzza21 ?yzza21 ?azza21 ?rzza21
            case hzza21 => (simp only [List.getElem?_toArray, List.getElem?_cons_succ, List.getElem?_cons_zero]; rfl)
            case szza21 => kernel_rfl
            case fzza21 => kernel_rfl
            case zzza21 => kernel_rfl
            case qzza21 => exact fun _ _ _ h => h
            case yzza21 => (refine Or.inl ⟨rfl, ?_⟩; intro w hSw; (try dsimp only at hSw); go_simp; try with_reducible rfl)
            case azza21 => assumption
            case rzza21 =>
            simp only [Act.put, List.setIfInBounds_toArray, List.set_cons_zero, List.set_cons_succ]
            refine' wpAnyH_take (i := 22) (oi := ?ozza22) (v := ?vzza22) ?hzza22 ?szza22 ?fzza22 ?zzza22 ?qzza22 ?yzza22 ?azza22 ?rzza22
            case hzza22 => (simp only [List.getElem?_toArray, List.getElem?_cons_succ, List.getElem?_cons_zero]; rfl)
            case szza22 => kernel_rfl
            case fzza22 => kernel_rfl
            case zzza22 => kernel_rfl
            case qzza22 => exact fun _ _ _ h => h
            case yzza22 => (refine Or.inl ⟨rfl, ?_⟩; intro w hSw; (try dsimp only at hSw); go_simp; try with_reducible rfl)
            case azza22 => assumption
            case rzza22 =>
            simp only [Act.put, List.setIfInBounds_toArray, List.set_cons_zero, List.set_cons_succ]
            refine' wpAnyH_take (i := 23) (oi := ?ozza23) (v := ?vzza23) ?hzza23 ?szza23 ?fzza23 ?zzza23 ?qzza23 ?yzza23 ?azza23 ?rzza23
            case hzza23 => (simp only [List.getElem?_toArray, List.getElem?_cons_succ, List.getElem?_cons_zero]; rfl)
            case szza23 => kernel_rfl
            case fzza23 => kernel_rfl
            case zzza23 => kernel_rfl
            case qzza23 => exact fun _ _ _ h => h
            case yzza23 => (refine Or.inl ⟨rfl, ?_⟩; intro w hSw; (try dsimp only at hSw); go_simp; try with_reducible rfl)
            case azza23 => assumption
            case rzza23 =>
            simp only [Act.put, List.setIfInBounds_toArray, List.set_cons_zero, List.set_cons_succ]
            refine' wpAnyH_take (i := 24) (oi := ?ozza24) (v := ?vzza24) ?hzza24 ?szza24 ?fzza24 ?zzza24 ?qzza24 ?yzza24 ?azza24 ?rzza24
            case hzza24 => (simp only [List.getElem?_toArray, List.getElem?_cons_succ, List.getElem?_cons_zero]; rfl)
            case szza24 => kernel_rfl
            case fzza24 => kernel_rfl
            case zzza24 => kernel_rfl
            case qzza24 => exact fun _ _ _ h => h
            case yzza24 => (refine Or.inl ⟨rfl, ?_⟩; intro w hSw; (try dsimp only at hSw); go_simp; try with_reducible rfl)
            case azza24 => assumption
            case rzza24 =>
            simp only [Act.put, List.setIfInBounds_toArray, List.set_cons_zero, List.set_cons_succ]
            refine' wpAnyH_take (i := 25) (oi := ?ozza25) (v := ?vzza25) ?hzza25 ?szza25 ?fzza25 ?zzza25 ?qzza25 ?yzza25 ?azza25 ?rzza25
            case hzza25 => (simp only [List.getElem?_toArray, List.getElem?_cons_succ, List.getElem?_cons_zero]; rfl)
            case szza25 => kernel_rfl
            case fzza25 => kernel_rfl
            case zzza25 => kernel_rfl
            case qzza25 => exact fun _ _ _ h => h
            case yzza25 => (refine Or.inl ⟨rfl, ?_⟩; intro w hSw; (try dsimp only at hSw); go_simp; try with_reducible rfl)
            case azza25 => assumption
            case rzza25 =>
            simp only [Act.put, List.setIfInBounds_toArray, List.set_cons_zero, List.set_cons_succ]
            refine wpAnyH_ready (rs := [26]) (by kernel_rfl) (by simp) ?_
            refine' AllReadyH.cons (o := ?ozza26) ?hzza26 ?kzza26 AllReadyH.nil
            case hzza26 => (simp only [List.getElem?_toArray, List.getElem?_cons_succ, List.getElem?_cons_zero]; rfl)
            case kzza26 =>
            intro K hK
            go_simp
            go_at_call 9
            refine (HPA.out _ _).mono ?_
            rintro e w8 ⟨rfl, hX⟩
            have S7' := Lib.hid (S7.out.below hX)
            have tD := b_all S7'.out
            refine hK.out _ _ ?_ (fun hHeld => ?_)
            · exact tD
            clear hK K
            (try simp only [Act.put, List.setIfInBounds_toArray, List.set_cons_zero, List.set_cons_succ])
            refine' wpAnyH_take (i := 27) (oi := ?ozza27) (v := ?vzza27) ?hzza27 ?szza27 ?fzza27 ?zzza27 ?qzza27 ?yzza27 ?azza27 ?rzza27
            case hzza27 => (simp only [List.getElem?_toArray, List.getElem?_cons_succ, List.getElem?_cons_zero]; rfl)
            case szza27 => kernel_rfl
            case fzza27 => kernel_rfl
            case zzza27 => kernel_rfl
            case qzza27 => exact fun _ _ _ h => h
            case yzza27 => (refine Or.inl ⟨rfl, ?_⟩; intro w hSw; (try dsimp only at hSw); go_simp; try with_reducible rfl)
            case azza27 => assumption
            case rzza27 =>
            simp only [Act.put, List.setIfInBounds_toArray, List.set_cons_zero, List.set_cons_succ]
            refine' wpAnyH_take (i := 28) (oi := ?ozza28) (v := ?vzza28) ?hzza28 ?szza28 ?fzza28 ?zzza28 ?qzza28 ?yzza28 ?azza28 ?rzza28
            case hzza28 => (simp only [List.getElem?_toArray, List.getElem?_cons_succ, List.getElem?_cons_zero]; rfl)
            case szza28 => kernel_rfl
            case fzza28 => kernel_rfl
            case zzza28 => kernel_rfl
            case qzza28 => exact fun _ _ _ h => h
            case yzza28 => (refine Or.inl ⟨rfl, ?_⟩; intro w hSw; (try dsimp only at hSw); go_simp; try with_reducible rfl)
            case azza28 => assumption
            case rzza28 =>
            simp only [Act.put, List.setIfInBounds_toArray, List.set_cons_zero, List.set_cons_succ]
            refine' wpAnyH_take (i := 29) (oi := ?ozza29) (v := ?vzza29) ?hzza29 ?szza29 ?fzza29 ?zzza29 ?qzza29 ?yzza29 ?azza29 ?rzza29
            case hzza29 => (simp only [List.getElem?_toArray, List.getElem?_cons_succ, List.getElem?_cons_zero]; rfl)
            case szza29 => kernel_rfl
            case fzza29 => kernel_rfl
            case zzza29 => kernel_rfl
            case qzza29 => exact fun _ _ _ h => h
            case yzza29 => (refine Or.inl ⟨rfl, ?_⟩; intro w hSw; (try dsimp only at hSw); go_simp; try with_reducible rfl)
            case azza29 => assumption
            case rzza29 =>
            simp only [Act.put, List.setIfInBounds_toArray, List.set_cons_zero, List.set_cons_succ]
            refine wpAnyH_done (by kernel_rfl) ?_ _
            have S8 := Lib.hid (S7'.out.re (show _ = Asn.blk gx 33 #[.int .i64 kd, .int .i64 pg, .int .i64 nd.tree, .int .i64 nd.level, .int .i64 nd.stamp, .bool nd.has, .string (ofL nd.high), .int .i64 nd.right, .slice A1 nd.list.length c1] * aB y k v h (Ls K) s (Asn.blk y.gb 42 (bRow y) * (aRt g1 g2 k R * Y)) by simp only [aB_eq]; ac_rfl)).right
            clear S5 HSB HPA tA tB tC tD
            have HTo := Lib.hid (told_any k (i + 1) K (by omega) (by omega) y v _ _ _ g1 g2 HM1.out w _ _ HR.out S8.out)
            go_wp2_with fail
            refine HTo.out.mono ?_
            rintro e w9 ⟨rfl, hX⟩
            have S9 := Lib.hid hX
            clear hX HTo S8
            go_wp2_with fail
            go_roundw
            case rel => exact ⟨i + 1, K, v, _, _, _, by go_num, by omega, by omega, by omega, HM1, HR, S9⟩
            case measure => simp [intOf]; omega
        · as_aux_lemma =>
            have d1 : decide (pg < 1) = false := decide_eq_false d1'
            have d2 : decide (2147483647 < pg) = true := decide_eq_true (by omega)
            go_upto_region 16 with fail
            clear k0 k1 k1' c3'
            refine wp_region_held_drew (S := fun W : World => W.cell? ⟨y.gb, 3, none⟩ = some (.pointer (some ⟨y.g, 0, none⟩)) ∧ W.cell? ⟨gx, 1, none⟩ = some (.int .i64 pg) ∧ W.cell? ⟨gx, 2, none⟩ = some (.int .i64 nd.tree) ∧ W.cell? ⟨gx, 3, none⟩ = some (.int .i64 nd.level) ∧ W.cell? ⟨gx, 4, none⟩ = some (.int .i64 nd.stamp) ∧ W.cell? ⟨gx, 5, none⟩ = some (.bool nd.has) ∧ W.cell? ⟨gx, 6, none⟩ = some (.string (ofL nd.high)) ∧ W.cell? ⟨gx, 7, none⟩ = some (.int .i64 nd.right) ∧ W.cell? ⟨gx, 8, none⟩ = some (.slice A1 nd.list.length c1)) (by kernel_rfl) tA (fun hHeld => ?_)
            refine' wpAnyH_take (i := 0) (oi := ?opB0) (v := ?vpB0) ?hpB0 ?spB0 ?fpB0 ?zpB0 ?qpB0 ?ypB0 ?apB0 ?rpB0
            case hpB0 => (simp only [List.getElem?_toArray, List.getElem?_cons_succ, List.getElem?_cons_zero]; rfl)
            case spB0 => kernel_rfl
            case fpB0 => kernel_rfl
            case zpB0 => kernel_rfl
            case qpB0 => exact fun _ _ _ h => h
            case ypB0 => (refine Or.inl ⟨rfl, ?_⟩; intro w hSw; (try dsimp only at hSw); go_simp; try with_reducible rfl)
            case apB0 => assumption
            case rpB0 =>
            simp only [Act.put, List.setIfInBounds_toArray, List.set_cons_zero, List.set_cons_succ]
            refine' wpAnyH_take (i := 1) (oi := ?opB1) (v := ?vpB1) ?hpB1 ?spB1 ?fpB1 ?zpB1 ?qpB1 ?ypB1 ?apB1 ?rpB1
            case hpB1 => (simp only [List.getElem?_toArray, List.getElem?_cons_succ, List.getElem?_cons_zero]; rfl)
            case spB1 => kernel_rfl
            case fpB1 => kernel_rfl
            case zpB1 => kernel_rfl
            case qpB1 => exact fun _ _ _ h => h
            case ypB1 => (refine Or.inl ⟨rfl, ?_⟩; intro w hSw; (try dsimp only at hSw); go_simp; try with_reducible rfl)
            case apB1 => assumption
            case rpB1 =>
            simp only [Act.put, List.setIfInBounds_toArray, List.set_cons_zero, List.set_cons_succ]
            refine' wpAnyH_take (i := 2) (oi := ?opB2) (v := ?vpB2) ?hpB2 ?spB2 ?fpB2 ?zpB2 ?qpB2 ?ypB2 ?apB2 ?rpB2
            case hpB2 => (simp only [List.getElem?_toArray, List.getElem?_cons_succ, List.getElem?_cons_zero]; rfl)
            case spB2 => kernel_rfl
            case fpB2 => kernel_rfl
            case zpB2 => kernel_rfl
            case qpB2 => exact fun _ _ _ h => h
            case ypB2 => (refine Or.inl ⟨rfl, ?_⟩; intro w hSw; (try dsimp only at hSw); go_simp; try with_reducible rfl)
            case apB2 => assumption
            case rpB2 =>
            simp only [Act.put, List.setIfInBounds_toArray, List.set_cons_zero, List.set_cons_succ]
            refine' wpAnyH_take (i := 3) (oi := ?opB3) (v := ?vpB3) ?hpB3 ?spB3 ?fpB3 ?zpB3 ?qpB3 ?ypB3 ?apB3 ?rpB3
            case hpB3 => (simp only [List.getElem?_toArray, List.getElem?_cons_succ, List.getElem?_cons_zero]; rfl)
            case spB3 => kernel_rfl
            case fpB3 => kernel_rfl
            case zpB3 => kernel_rfl
            case qpB3 => exact fun _ _ _ h => h
            case ypB3 => (refine Or.inl ⟨rfl, ?_⟩; intro w hSw; (try dsimp only at hSw); go_simp; try with_reducible rfl)
            case apB3 => assumption
            case rpB3 =>
            simp only [Act.put, List.setIfInBounds_toArray, List.set_cons_zero, List.set_cons_succ]
            refine' wpAnyH_take (i := 4) (oi := ?opB4) (v := ?vpB4) ?hpB4 ?spB4 ?fpB4 ?zpB4 ?qpB4 ?ypB4 ?apB4 ?rpB4
            case hpB4 => (simp only [List.getElem?_toArray, List.getElem?_cons_succ, List.getElem?_cons_zero]; rfl)
            case spB4 => kernel_rfl
            case fpB4 => kernel_rfl
            case zpB4 => kernel_rfl
            case qpB4 => exact fun _ _ _ h => h
            case ypB4 => (refine Or.inl ⟨rfl, ?_⟩; intro w hSw; (try dsimp only at hSw); go_simp; try with_reducible rfl)
            case apB4 => assumption
            case rpB4 =>
            simp only [Act.put, List.setIfInBounds_toArray, List.set_cons_zero, List.set_cons_succ]
            refine' wpAnyH_take (i := 5) (oi := ?opB5) (v := ?vpB5) ?hpB5 ?spB5 ?fpB5 ?zpB5 ?qpB5 ?ypB5 ?apB5 ?rpB5
            case hpB5 => (simp only [List.getElem?_toArray, List.getElem?_cons_succ, List.getElem?_cons_zero]; rfl)
            case spB5 => kernel_rfl
            case fpB5 => kernel_rfl
            case zpB5 => kernel_rfl
            case qpB5 => exact fun _ _ _ h => h
            case ypB5 => (refine Or.inl ⟨rfl, ?_⟩; intro w hSw; (try dsimp only at hSw); go_simp; try with_reducible rfl)
            case apB5 => assumption
            case rpB5 =>
            simp only [Act.put, List.setIfInBounds_toArray, List.set_cons_zero, List.set_cons_succ]
            refine' wpAnyH_take (i := 6) (oi := ?opB6) (v := ?vpB6) ?hpB6 ?spB6 ?fpB6 ?zpB6 ?qpB6 ?ypB6 ?apB6 ?rpB6
            case hpB6 => (simp only [List.getElem?_toArray, List.getElem?_cons_succ, List.getElem?_cons_zero]; rfl)
            case spB6 => kernel_rfl
            case fpB6 => kernel_rfl
            case zpB6 => kernel_rfl
            case qpB6 => exact fun _ _ _ h => h
            case ypB6 => (refine Or.inl ⟨rfl, ?_⟩; intro w hSw; (try dsimp only at hSw); go_simp; try with_reducible rfl)
            case apB6 => assumption
            case rpB6 =>
            simp only [Act.put, List.setIfInBounds_toArray, List.set_cons_zero, List.set_cons_succ]
            refine' wpAnyH_take (i := 7) (oi := ?opB7) (v := ?vpB7) ?hpB7 ?spB7 ?fpB7 ?zpB7 ?qpB7 ?ypB7 ?apB7 ?rpB7
            case hpB7 => (simp only [List.getElem?_toArray, List.getElem?_cons_succ, List.getElem?_cons_zero]; rfl)
            case spB7 => kernel_rfl
            case fpB7 => kernel_rfl
            case zpB7 => kernel_rfl
            case qpB7 => exact fun _ _ _ h => h
            case ypB7 => (refine Or.inl ⟨rfl, ?_⟩; intro w hSw; (try dsimp only at hSw); go_simp; try with_reducible rfl)
            case apB7 => assumption
            case rpB7 =>
            simp only [Act.put, List.setIfInBounds_toArray, List.set_cons_zero, List.set_cons_succ]
            refine' wpAnyH_take (i := 8) (oi := ?opB8) (v := ?vpB8) ?hpB8 ?spB8 ?fpB8 ?zpB8 ?qpB8 ?ypB8 ?apB8 ?rpB8
            case hpB8 => (simp only [List.getElem?_toArray, List.getElem?_cons_succ, List.getElem?_cons_zero]; rfl)
            case spB8 => kernel_rfl
            case fpB8 => kernel_rfl
            case zpB8 => kernel_rfl
            case qpB8 => exact fun _ _ _ h => h
            case ypB8 => (refine Or.inl ⟨rfl, ?_⟩; intro w hSw; (try dsimp only at hSw); go_simp; try with_reducible rfl)
            case apB8 => assumption
            case rpB8 =>
            simp only [Act.put, List.setIfInBounds_toArray, List.set_cons_zero, List.set_cons_succ]
            refine' wpAnyH_take (i := 9) (oi := ?opB9) (v := ?vpB9) ?hpB9 ?spB9 ?fpB9 ?zpB9 ?qpB9 ?ypB9 ?apB9 ?rpB9
            case hpB9 => (simp only [List.getElem?_toArray, List.getElem?_cons_succ, List.getElem?_cons_zero]; rfl)
            case spB9 => kernel_rfl
            case fpB9 => kernel_rfl
            case zpB9 => kernel_rfl
            case qpB9 => exact fun _ _ _ h => h
            case ypB9 => (refine Or.inl ⟨rfl, ?_⟩; intro w hSw; (try dsimp only at hSw); go_simp; try with_reducible rfl)
            case apB9 => assumption
            case rpB9 =>
            simp only [Act.put, List.setIfInBounds_toArray, List.set_cons_zero, List.set_cons_succ]
            refine' wpAnyH_take (i := 10) (oi := ?opB10) (v := ?vpB10) ?hpB10 ?spB10 ?fpB10 ?zpB10 ?qpB10 ?ypB10 ?apB10 ?rpB10
            case hpB10 => (simp only [List.getElem?_toArray, List.getElem?_cons_succ, List.getElem?_cons_zero]; rfl)
            case spB10 => kernel_rfl
            case fpB10 => kernel_rfl
            case zpB10 => kernel_rfl
            case qpB10 => exact fun _ _ _ h => h
            case ypB10 => (refine Or.inl ⟨rfl, ?_⟩; intro w hSw; (try dsimp only at hSw); go_simp; try with_reducible rfl)
            case apB10 => assumption
            case rpB10 =>
            simp only [Act.put, List.setIfInBounds_toArray, List.set_cons_zero, List.set_cons_succ]
            refine' wpAnyH_take (i := 11) (oi := ?opB11) (v := ?vpB11) ?hpB11 ?spB11 ?fpB11 ?zpB11 ?qpB11 ?ypB11 ?apB11 ?rpB11
            case hpB11 => (simp only [List.getElem?_toArray, List.getElem?_cons_succ, List.getElem?_cons_zero]; rfl)
            case spB11 => kernel_rfl
            case fpB11 => kernel_rfl
            case zpB11 => kernel_rfl
            case qpB11 => exact fun _ _ _ h => h
            case ypB11 => (refine Or.inl ⟨rfl, ?_⟩; intro w hSw; (try dsimp only at hSw); go_simp; try with_reducible rfl)
            case apB11 => assumption
            case rpB11 =>
            simp only [Act.put, List.setIfInBounds_toArray, List.set_cons_zero, List.set_cons_succ]
            refine' wpAnyH_take (i := 12) (oi := ?opB12) (v := ?vpB12) ?hpB12 ?spB12 ?fpB12 ?zpB12 ?qpB12 ?ypB12 ?apB12 ?rpB12
            case hpB12 => (simp only [List.getElem?_toArray, List.getElem?_cons_succ, List.getElem?_cons_zero]; rfl)
            case spB12 => kernel_rfl
            case fpB12 => kernel_rfl
            case zpB12 => kernel_rfl
            case qpB12 => exact fun _ _ _ h => h
            case ypB12 => (refine Or.inl ⟨rfl, ?_⟩; intro w hSw; (try dsimp only at hSw); go_simp; try with_reducible rfl)
            case apB12 => assumption
            case rpB12 =>
            simp only [Act.put, List.setIfInBounds_toArray, List.set_cons_zero, List.set_cons_succ]
            refine' wpAnyH_take (i := 13) (oi := ?opB13) (v := ?vpB13) ?hpB13 ?spB13 ?fpB13 ?zpB13 ?qpB13 ?ypB13 ?apB13 ?rpB13
            case hpB13 => (simp only [List.getElem?_toArray, List.getElem?_cons_succ, List.getElem?_cons_zero]; rfl)
            case spB13 => kernel_rfl
            case fpB13 => kernel_rfl
            case zpB13 => kernel_rfl
            case qpB13 => exact fun _ _ _ h => h
            case ypB13 => (refine Or.inl ⟨rfl, ?_⟩; intro w hSw; (try dsimp only at hSw); go_simp; try with_reducible rfl)
            case apB13 => assumption
            case rpB13 =>
            simp only [Act.put, List.setIfInBounds_toArray, List.set_cons_zero, List.set_cons_succ]
            refine' wpAnyH_take (i := 14) (oi := ?opB14) (v := ?vpB14) ?hpB14 ?spB14 ?fpB14 ?zpB14 ?qpB14 ?ypB14 ?apB14 ?rpB14
            case hpB14 => (simp only [List.getElem?_toArray, List.getElem?_cons_succ, List.getElem?_cons_zero]; rfl)
            case spB14 => kernel_rfl
            case fpB14 => kernel_rfl
            case zpB14 => kernel_rfl
            case qpB14 => exact fun _ _ _ h => h
            case ypB14 => (refine Or.inl ⟨rfl, ?_⟩; intro w hSw; (try dsimp only at hSw); go_simp; try with_reducible rfl)
            case apB14 => assumption
            case rpB14 =>
            simp only [Act.put, List.setIfInBounds_toArray, List.set_cons_zero, List.set_cons_succ]
            refine' wpAnyH_take (i := 15) (oi := ?opB15) (v := ?vpB15) ?hpB15 ?spB15 ?fpB15 ?zpB15 ?qpB15 ?ypB15 ?apB15 ?rpB15
            case hpB15 => (simp only [List.getElem?_toArray, List.getElem?_cons_succ, List.getElem?_cons_zero]; rfl)
            case spB15 => kernel_rfl
            case fpB15 => kernel_rfl
            case zpB15 => kernel_rfl
            case qpB15 => exact fun _ _ _ h => h
            case ypB15 => (refine Or.inl ⟨rfl, ?_⟩; intro w hSw; (try dsimp only at hSw); go_simp; try with_reducible rfl)
            case apB15 => assumption
            case rpB15 =>
            simp only [Act.put, List.setIfInBounds_toArray, List.set_cons_zero, List.set_cons_succ]
            clear d1 d1' hr d2
            refine wpAnyH_ready (rs := [16]) (by kernel_rfl) (by simp) ?_
            refine' AllReadyH.cons (o := ?opB16) ?hpB16 ?kpB16 AllReadyH.nil
            case hpB16 => (simp only [List.getElem?_toArray, List.getElem?_cons_succ, List.getElem?_cons_zero]; rfl)
            case kpB16 =>
            intro K hK
            refine step_bs_w rfl 94 (.tmp 74) rfl _ rfl _ _ (run_bs _ 0 0 0 0 0 false ⟨#[]⟩ none 0 0) ?_
            refine hK.out _ _ ?_ (fun hHeld => ?_)
            · exact tB
            clear hK K
            (try simp only [Act.put, List.setIfInBounds_toArray, List.set_cons_zero, List.set_cons_succ])
            refine wpAnyH_ready (rs := [17]) (by kernel_rfl) (by simp) ?_
            refine' AllReadyH.cons (o := ?opB17) ?hpB17 ?kpB17 AllReadyH.nil
            case hpB17 => (simp only [List.getElem?_toArray, List.getElem?_cons_succ, List.getElem?_cons_zero]; rfl)
            case kpB17 =>
            intro K hK
            go_simp
            go_at_call 9
            refine (HPA.out _ _).mono ?_
            rintro e w7 ⟨rfl, hX⟩
            have S7 := Lib.hid (HSB.out.below hX)
            have tC := b_all S7.out
            refine hK.out _ _ ?_ (fun hHeld => ?_)
            · exact tC
            clear hK K
            (try simp only [Act.put, List.setIfInBounds_toArray, List.set_cons_zero, List.set_cons_succ])
            refine' wpAnyH_take (i := 18) (oi := ?opB18) (v := ?vpB18) ?hpB18 ?spB18 ?fpB18 ?zpB18 ?qpB18 ?ypB18 ?apB18 ?rpB18
            case hpB18 => (simp only [List.getElem?_toArray, List.getElem?_cons_succ, List.getElem?_cons_zero]; rfl)
            case spB18 => kernel_rfl
            case fpB18 => kernel_rfl
            case zpB18 => kernel_rfl
            case qpB18 => exact fun _ _ _ h => h
            case ypB18 => (refine Or.inl ⟨rfl, ?_⟩; intro w hSw; (try dsimp only at hSw); go_simp; try with_reducible rfl)
            case apB18 => assumption
            case rpB18 =>
            simp only [Act.put, List.setIfInBounds_toArray, List.set_cons_zero, List.set_cons_succ]
            refine' wpAnyH_take (i := 19) (oi := ?opB19) (v := ?vpB19) ?hpB19 ?spB19 ?fpB19 ?zpB19 ?qpB19 ?ypB19 ?apB19 ?rpB19
            case hpB19 => (simp only [List.getElem?_toArray, List.getElem?_cons_succ, List.getElem?_cons_zero]; rfl)
            case spB19 => kernel_rfl
            case fpB19 => kernel_rfl
            case zpB19 => kernel_rfl
            case qpB19 => exact fun _ _ _ h => h
            case ypB19 => (refine Or.inl ⟨rfl, ?_⟩; intro w hSw; (try dsimp only at hSw); go_simp; try with_reducible rfl)
            case apB19 => assumption
            case rpB19 =>
            simp only [Act.put, List.setIfInBounds_toArray, List.set_cons_zero, List.set_cons_succ]
            refine' wpAnyH_take (i := 20) (oi := ?opB20) (v := ?vpB20) ?hpB20 ?spB20 ?fpB20 ?zpB20 ?qpB20 ?ypB20 ?apB20 ?rpB20
            case hpB20 => (simp only [List.getElem?_toArray, List.getElem?_cons_succ, List.getElem?_cons_zero]; rfl)
            case spB20 => kernel_rfl
            case fpB20 => kernel_rfl
            case zpB20 => kernel_rfl
            case qpB20 => exact fun _ _ _ h => h
            case ypB20 => (refine Or.inl ⟨rfl, ?_⟩; intro w hSw; (try dsimp only at hSw); go_simp; try with_reducible rfl)
            case apB20 => assumption
            case rpB20 =>
            simp only [Act.put, List.setIfInBounds_toArray, List.set_cons_zero, List.set_cons_succ]
            refine' wpAnyH_take (i := 21) (oi := ?opB21) (v := ?vpB21) ?hpB21 ?spB21 ?fpB21 ?zpB21 ?qpB21 ?ypB21 ?apB21 ?rpB21
            case hpB21 => (simp only [List.getElem?_toArray, List.getElem?_cons_succ, List.getElem?_cons_zero]; rfl)
            case spB21 => kernel_rfl
            case fpB21 => kernel_rfl
            case zpB21 => kernel_rfl
            case qpB21 => exact fun _ _ _ h => h
            case ypB21 => (refine Or.inl ⟨rfl, ?_⟩; intro w hSw; (try dsimp only at hSw); go_simp; try with_reducible rfl)
            case apB21 => assumption
            case rpB21 =>
            simp only [Act.put, List.setIfInBounds_toArray, List.set_cons_zero, List.set_cons_succ]
            refine' wpAnyH_take (i := 22) (oi := ?opB22) (v := ?vpB22) ?hpB22 ?spB22 ?fpB22 ?zpB22 ?qpB22 ?ypB22 ?apB22 ?rpB22
            case hpB22 => (simp only [List.getElem?_toArray, List.getElem?_cons_succ, List.getElem?_cons_zero]; rfl)
            case spB22 => kernel_rfl
            case fpB22 => kernel_rfl
            case zpB22 => kernel_rfl
            case qpB22 => exact fun _ _ _ h => h
            case ypB22 => (refine Or.inl ⟨rfl, ?_⟩; intro w hSw; (try dsimp only at hSw); go_simp; try with_reducible rfl)
            case apB22 => assumption
            case rpB22 =>
            simp only [Act.put, List.setIfInBounds_toArray, List.set_cons_zero, List.set_cons_succ]
            refine' wpAnyH_take (i := 23) (oi := ?opB23) (v := ?vpB23) ?hpB23 ?spB23 ?fpB23 ?zpB23 ?qpB23 ?ypB23 ?apB23 ?rpB23
            case hpB23 => (simp only [List.getElem?_toArray, List.getElem?_cons_succ, List.getElem?_cons_zero]; rfl)
            case spB23 => kernel_rfl
            case fpB23 => kernel_rfl
            case zpB23 => kernel_rfl
            case qpB23 => exact fun _ _ _ h => h
            case ypB23 => (refine Or.inl ⟨rfl, ?_⟩; intro w hSw; (try dsimp only at hSw); go_simp; try with_reducible rfl)
            case apB23 => assumption
            case rpB23 =>
            simp only [Act.put, List.setIfInBounds_toArray, List.set_cons_zero, List.set_cons_succ]
            refine' wpAnyH_take (i := 24) (oi := ?opB24) (v := ?vpB24) ?hpB24 ?spB24 ?fpB24 ?zpB24 ?qpB24 ?ypB24 ?apB24 ?rpB24
            case hpB24 => (simp only [List.getElem?_toArray, List.getElem?_cons_succ, List.getElem?_cons_zero]; rfl)
            case spB24 => kernel_rfl
            case fpB24 => kernel_rfl
            case zpB24 => kernel_rfl
            case qpB24 => exact fun _ _ _ h => h
            case ypB24 => (refine Or.inl ⟨rfl, ?_⟩; intro w hSw; (try dsimp only at hSw); go_simp; try with_reducible rfl)
            case apB24 => assumption
            case rpB24 =>
            simp only [Act.put, List.setIfInBounds_toArray, List.set_cons_zero, List.set_cons_succ]
            refine' wpAnyH_take (i := 25) (oi := ?opB25) (v := ?vpB25) ?hpB25 ?spB25 ?fpB25 ?zpB25 ?qpB25 ?ypB25 ?apB25 ?rpB25
            case hpB25 => (simp only [List.getElem?_toArray, List.getElem?_cons_succ, List.getElem?_cons_zero]; rfl)
            case spB25 => kernel_rfl
            case fpB25 => kernel_rfl
            case zpB25 => kernel_rfl
            case qpB25 => exact fun _ _ _ h => h
            case ypB25 => (refine Or.inl ⟨rfl, ?_⟩; intro w hSw; (try dsimp only at hSw); go_simp; try with_reducible rfl)
            case apB25 => assumption
            case rpB25 =>
            simp only [Act.put, List.setIfInBounds_toArray, List.set_cons_zero, List.set_cons_succ]
            refine wpAnyH_ready (rs := [26]) (by kernel_rfl) (by simp) ?_
            refine' AllReadyH.cons (o := ?opB26) ?hpB26 ?kpB26 AllReadyH.nil
            case hpB26 => (simp only [List.getElem?_toArray, List.getElem?_cons_succ, List.getElem?_cons_zero]; rfl)
            case kpB26 =>
            intro K hK
            go_simp
            go_at_call 9
            refine (HPA.out _ _).mono ?_
            rintro e w8 ⟨rfl, hX⟩
            have S7' := Lib.hid (S7.out.below hX)
            have tD := b_all S7'.out
            refine hK.out _ _ ?_ (fun hHeld => ?_)
            · exact tD
            clear hK K
            (try simp only [Act.put, List.setIfInBounds_toArray, List.set_cons_zero, List.set_cons_succ])
            refine' wpAnyH_take (i := 27) (oi := ?opB27) (v := ?vpB27) ?hpB27 ?spB27 ?fpB27 ?zpB27 ?qpB27 ?ypB27 ?apB27 ?rpB27
            case hpB27 => (simp only [List.getElem?_toArray, List.getElem?_cons_succ, List.getElem?_cons_zero]; rfl)
            case spB27 => kernel_rfl
            case fpB27 => kernel_rfl
            case zpB27 => kernel_rfl
            case qpB27 => exact fun _ _ _ h => h
            case ypB27 => (refine Or.inl ⟨rfl, ?_⟩; intro w hSw; (try dsimp only at hSw); go_simp; try with_reducible rfl)
            case apB27 => assumption
            case rpB27 =>
            simp only [Act.put, List.setIfInBounds_toArray, List.set_cons_zero, List.set_cons_succ]
            refine' wpAnyH_take (i := 28) (oi := ?opB28) (v := ?vpB28) ?hpB28 ?spB28 ?fpB28 ?zpB28 ?qpB28 ?ypB28 ?apB28 ?rpB28
            case hpB28 => (simp only [List.getElem?_toArray, List.getElem?_cons_succ, List.getElem?_cons_zero]; rfl)
            case spB28 => kernel_rfl
            case fpB28 => kernel_rfl
            case zpB28 => kernel_rfl
            case qpB28 => exact fun _ _ _ h => h
            case ypB28 => (refine Or.inl ⟨rfl, ?_⟩; intro w hSw; (try dsimp only at hSw); go_simp; try with_reducible rfl)
            case apB28 => assumption
            case rpB28 =>
            simp only [Act.put, List.setIfInBounds_toArray, List.set_cons_zero, List.set_cons_succ]
            refine' wpAnyH_take (i := 29) (oi := ?opB29) (v := ?vpB29) ?hpB29 ?spB29 ?fpB29 ?zpB29 ?qpB29 ?ypB29 ?apB29 ?rpB29
            case hpB29 => (simp only [List.getElem?_toArray, List.getElem?_cons_succ, List.getElem?_cons_zero]; rfl)
            case spB29 => kernel_rfl
            case fpB29 => kernel_rfl
            case zpB29 => kernel_rfl
            case qpB29 => exact fun _ _ _ h => h
            case ypB29 => (refine Or.inl ⟨rfl, ?_⟩; intro w hSw; (try dsimp only at hSw); go_simp; try with_reducible rfl)
            case apB29 => assumption
            case rpB29 =>
            simp only [Act.put, List.setIfInBounds_toArray, List.set_cons_zero, List.set_cons_succ]
            refine wpAnyH_done (by kernel_rfl) ?_ _
            have S8 := Lib.hid (S7'.out.re (show _ = Asn.blk gx 33 #[.int .i64 kd, .int .i64 pg, .int .i64 nd.tree, .int .i64 nd.level, .int .i64 nd.stamp, .bool nd.has, .string (ofL nd.high), .int .i64 nd.right, .slice A1 nd.list.length c1] * aB y k v h (Ls K) s (Asn.blk y.gb 42 (bRow y) * (aRt g1 g2 k R * Y)) by simp only [aB_eq]; ac_rfl)).right
            clear S5 HSB HPA tA tB tC tD
            have HTo := Lib.hid (told_any k (i + 1) K (by omega) (by omega) y v _ _ _ g1 g2 HM1.out w _ _ HR.out S8.out)
            go_wp2_with fail
            refine HTo.out.mono ?_
            rintro e w9 ⟨rfl, hX⟩
            have S9 := Lib.hid hX
            clear hX HTo S8
            go_wp2_with fail
            go_roundw
            case rel => exact ⟨i + 1, K, v, _, _, _, by go_num, by omega, by omega, by omega, HM1, HR, S9⟩
            case measure => simp [intOf]; omega
    · have hx' : (decide (i < m1) && decide (i < 40)) = false := by
        by_cases a1 : i < m1
        · rw [decide_eq_true a1, decide_eq_false (fun e => hlt ⟨a1, e⟩)]; rfl
        · rw [decide_eq_false a1]; rfl
      by_cases a1 : i < m1
      · have a2 : ¬ i < 40 := fun e => hlt ⟨a1, e⟩
        clear hlt hx'
        go_wp2_with fail
        go_returns
        exact ⟨rfl, S.out.bel⟩
      · go_wp2_with fail
        go_returns
        exact ⟨rfl, S.out.bel⟩
end Go.Proofs.YtapdpdhibpblgaaGreatDoor.Tr
