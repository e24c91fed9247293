/- The walk of LockApart. -/
import Derived.Test.YtikdjgholjealaaGreatDoorLkPl
import Derived.Test.YtikdjgholjealaaGreatDoorLkAw
import Derived.Deep.CutBlock
import Derived.Deep.DeepCutAuto
namespace Go.Proofs.YtikdjgholjealaaGreatDoor.Lk
open Go.ChangeShapes Go.WideShapes Go.ChangeAt Go.RowKit Go.PlainAid Aid Md
set_option linter.unusedVariables false
set_option linter.unusedSimpArgs false
/-- A deed. -/
structure Ac where
  kind : Int
  id : Int
  nm : By
  tn : By
  mode : Int
def acCells (x : Ac) : Array Value := #[.int .i64 x.kind, .int .i64 x.id, .string (ofL x.nm), .string (ofL x.tn), .int .i64 x.mode]
def AcRow (w : World) (A : Option Addr) (m : Nat) (L : List Ac) : Prop :=
  L.length = m ∧ ∀ (k : Nat) (x : Ac), L[k]? = some x → I64w x.id ∧ ∃ b o, A = some ⟨b, o, none⟩ ∧ b < w.heap.size ∧ ∀ j v, (acCells x)[j]? = some v → w.cell? ⟨b, o + k * 5 + j, none⟩ = some v
theorem AcRow.keep {w w' : World} {A : Option Addr} {m : Nat} {L : List Ac} (h : AcRow w A m L) (hb : Below w.heap.size w w') : AcRow w' A m L := by
  refine ⟨h.1, fun k x hk => ?_⟩
  obtain ⟨h1, b, o, hA, hl, hc⟩ := h.2 k x hk
  exact ⟨h1, b, o, hA, Nat.lt_of_lt_of_le hl hb.size, fun j v hv => by rw [(bcell hb).1 _ _ hl]; exact hc j v hv⟩
theorem cntH_le {M : Nat} : ∀ (H : List Hol), (∀ x, x ∈ H → x.2.2.length ≤ M) → cntH H ≤ H.length * M
  | [], _ => by simp [cntH]
  | x :: H, h => by
    have h1 := cntH_le H (fun y hy => h y (List.mem_cons_of_mem _ hy))
    have h2 := h x List.mem_cons_self
    unfold cntH at h1 ⊢
    rw [List.map_cons, List.sum_cons, List.length_cons, Nat.add_mul]
    omega
theorem Inv.cnt_le {N : Nat} {H : List Hol} {L : List Lin} {W : List Wan} (h : Inv N H L W) (hN : N ≤ 900) : cnt H W ≤ 1000000 := by
  have h1 := cntH_le (M := N) H (fun x hx => by have := h.sh x hx; omega)
  have h2 := h.sH
  have h3 : H.length * N ≤ 900 * 900 := Nat.mul_le_mul (by omega) hN
  unfold cnt
  omega
set_option maxRecDepth 100000 in
theorem great_any (x : Ac) (w : World) :
    Calls Tryz.prog 7 #[.agg (acCells x)] w fun e w' => e = .returned (.bool (decide (60 < x.nm.length) || decide (60 < x.tn.length))) ∧ Below w.heap.size w w' := by
  obtain ⟨kind, id, nm, tn, mode⟩ := x
  have S0 := Lib.hid ((Own.none w).alloc #[.int .i64 kind, .int .i64 id, .string (ofL nm), .string (ofL tn), .int .i64 mode] 27)
  have z1 : (ofL nm).size = nm.length := rfl
  have z2 : (ofL tn).size = tn.length := rfl
  unfold acCells
  dsimp only
  by_cases h1 : 60 < nm.length
  · have b1 : (60 : Int) < (nm.length : Int) := by omega
    go_enter Tryz.func7, Tryz.ntmps7
    go_wp2_with fail
    go_returns
    exact ⟨by simp [h1], S0.out.bel⟩
  · have b1 : ¬ (60 : Int) < (nm.length : Int) := by omega
    by_cases h2 : 60 < tn.length
    · have b2 : (60 : Int) < (tn.length : Int) := by omega
      go_enter Tryz.func7, Tryz.ntmps7
      go_wp2_with fail
      go_returns
      exact ⟨by simp [h1, h2], S0.out.bel⟩
    · have b2 : ¬ (60 : Int) < (tn.length : Int) := by omega
      go_enter Tryz.func7, Tryz.ntmps7
      go_wp2_with fail
      go_returns
      exact ⟨by simp [h1, h2], S0.out.bel⟩
theorem five_of {w : World} {g : Nat} {T : TypeId} {a0 a1 a2 a3 a4 : Value} (h : Blk w g T #[a0, a1, a2, a3, a4]) :
    w.cell? ⟨g, 0, none⟩ = some a0 ∧ w.cell? ⟨g, 1, none⟩ = some a1 ∧ w.cell? ⟨g, 2, none⟩ = some a2 ∧ w.cell? ⟨g, 3, none⟩ = some a3 ∧ w.cell? ⟨g, 4, none⟩ = some a4 := ⟨h.cell 0, h.cell 1, h.cell 2, h.cell 3, h.cell 4⟩
theorem names_nodup {w : World} {bb h l wt : Nat} {H : List Hol} {L : List Lin} {W : List Wan} (k : Bk w bb h l wt H L W) : (L.map (·.1)).Nodup := by
  have := k.apartL
  unfold ApartL at this
  exact List.pairwise_map.2 this
set_option maxRecDepth 100000 in
set_option maxHeartbeats 16000000 in
theorem apart_walk (A : Option Addr) (m c : Nat) (R : List Ac) (w : World) (ht : Tabs w) (hm : m ≤ maxLen) (hR : AcRow w A m R) :
    Calls Tryz.prog 3 #[.slice A m c] w fun e w' => e = .returned (.bool true) ∧ Below w.heap.size w w' := by
  have HT := Lib.hid ht
  have HR := Lib.hid hR
  have HA := Lib.hid (awake_any w ht)
  unfold maxLen at hm
  clear ht hR
  go_enter Tryz.func3, Tryz.ntmps3
  go_wp2_with fail
  refine HA.out.mono ?_
  rintro e w1 ⟨rfl, hX⟩
  have S1 := Lib.hid (Own.of_below hX)
  clear hX HA
  go_wp2_with fail
  refine (new_any w w1 _ S1.out).mono ?_
  rintro e w2 ⟨bb, h, l, wt, rfl, hX⟩
  have S2 := Lib.hid hX
  clear hX S1
  unfold bPtr at *
  go_wp2_with fail
  go_loopw [4] (fun i wr => ∃ (k : Nat) (H : List Hol) (L : List Lin) (W : List Wan), k ≤ m ∧ k ≤ 60 ∧ i = .int .i64 k ∧ Hid (Inv k H L W) ∧ Hid (Gd H) ∧ Hid (Wt H L W) ∧ Hid (Aid.Own w No wr (aBk bb h l wt H L W * Asn.emp))) (fun i _ => m - (intOf i).toNat)
  case atStart => exact ⟨0, [], [], [], Nat.zero_le _, Nat.zero_le _, rfl, Lib.hid inv_nil, Lib.hid gd_nil, Lib.hid wt_nil, S2⟩
  case round =>
    clear S2
    obtain ⟨k, H, L, W, hk, hk60, rfl, HV, HG, HW, S⟩ := hrel
    by_cases hlt : k < m
    · by_cases h60 : k < 60
      · obtain ⟨x, hx⟩ : ∃ x, R[k]? = some x := ⟨R[k]'(by rw [HR.out.1]; omega), List.getElem?_eq_getElem _⟩
        obtain ⟨hxi, b, o, hA, hbl, hc⟩ := (HR.out.keep S.out.bel).2 k x hx
        have HX := Lib.hid hx
        have HXI := Lib.hid hxi
        obtain ⟨kind, id, nm, tn, mode⟩ := x
        subst hA
        have c0 : wr.cell? ⟨b, o + k * 5, none⟩ = some (.int .i64 kind) := hc 0 _ rfl
        have c1 : wr.cell? ⟨b, o + k * 5 + 1, none⟩ = some (.int .i64 id) := hc 1 _ rfl
        have c2 : wr.cell? ⟨b, o + k * 5 + 2, none⟩ = some (.string (ofL nm)) := hc 2 _ rfl
        have c3 : wr.cell? ⟨b, o + k * 5 + 3, none⟩ = some (.string (ofL tn)) := hc 3 _ rfl
        have c4 : wr.cell? ⟨b, o + k * 5 + 4, none⟩ = some (.int .i64 mode) := hc 4 _ rfl
        have S3 := Lib.hid (S.out.alloc #[.int .i64 kind, .int .i64 id, .string (ofL nm), .string (ofL tn), .int .i64 mode] 27)
        clear hc hbl S hx hxi
        go_upto_region 8 with fail
        obtain ⟨gx, hgz⟩ : ∃ g, g = wr.heap.size := ⟨_, rfl⟩
        rw [← hgz] at S3 ⊢
        clear hgz c0 c1 c2 c3 c4
        generalize wr.alloc _ = w3 at *
        obtain ⟨c0, c1, c2, c3, c4⟩ := five_of (S3.out.has (Has.l (has_blk gx _ _)))
        have HGr := Lib.hid (great_any ⟨kind, id, nm, tn, mode⟩ w3)
        unfold acCells at HGr
        dsimp only at HGr
        go_wp2_with fail
        refine HGr.out.mono ?_
        rintro e w4 ⟨rfl, hb⟩
        have S4 := Lib.hid (S3.out.below hb)
        clear hb S3 HGr c0 c1 c2 c3 c4
        obtain ⟨c0, c1, c2, c3, c4⟩ := five_of (S4.out.has (Has.l (has_blk gx _ _)))
        by_cases hbig : (decide (60 < nm.length) || decide (60 < tn.length)) = true
        · rw [hbig]
          go_wp2_with fail
          go_returns
          exact ⟨rfl, S4.out.bel⟩
        · have hbf : (decide (60 < nm.length) || decide (60 < tn.length)) = false := by simpa using hbig
          have hnm : nm.length ≤ 1000 := by simp at hbf; omega
          have HNM := Lib.hid hnm
          rw [hbf]
          clear hbig hbf hnm
          go_upto_block 2 with fail
          have S5 := Lib.hid (S4.out.re (show _ = aBk bb h l wt H L W * (Asn.blk gx 27 #[.int .i64 kind, .int .i64 id, .string (ofL nm), .string (ofL tn), .int .i64 mode] * Asn.emp) by ac_rfl))
          clear S4
          go_cut [] (fun wx => ∃ (H3 : List Hol) (L3 : List Lin) (W3 : List Wan), Hid (Inv (k + 1) H3 L3 W3) ∧ Hid (Gd H3) ∧ Hid (Wt H3 L3 W3) ∧ Hid (Aid.Own w No wx (aBk bb h l wt H3 L3 W3 * (Asn.blk gx 27 #[.int .i64 kind, .int .i64 id, .string (ofL nm), .string (ofL tn), .int .i64 mode] * Asn.emp))))
          case first =>
            by_cases k1 : kind = 1
            · subst k1
              have hA := Ask_any (id := id) (name := nm) mode w w4 _ S5.out HT.out HXI.out HNM.out HV.out (by omega) (HV.out.cnt_le (by omega))
              unfold bPtr at hA
              have HAk := Lib.hid hA
              clear hA
              go_wp2_with fail
              refine HAk.out.mono ?_
              rintro e w6 ⟨c6, H6, L6, W6, rfl, t, hX⟩
              have hv6 := t.inv HV.out HXI.out HNM.out
              obtain ⟨hg6, hw6, hc0, hc11⟩ := t.wt HV.out HG.out HW.out
              have S6 := Lib.hid hX
              have HV6 := Lib.hid hv6
              have HG6 := Lib.hid hg6
              have HW6 := Lib.hid hw6
              have HC0 := Lib.hid hc0
              have HC11 := Lib.hid hc11
              clear HAk hX S5 t hv6 hg6 hw6 hc0 hc11 HV HG HW c0 c1 c2 c3 c4
              obtain ⟨c0, c1, c2, c3, c4⟩ := five_of (S6.out.has (Has.r (Has.l (has_blk gx _ _))))
              have hWt := Waits_any id w6 (bk_of S6.out) HXI.out
              unfold bPtr at hWt
              have HWt := Lib.hid hWt
              clear hWt
              go_wp2_with fail
              refine HWt.out.mono ?_
              rintro e w7 ⟨rfl, hb⟩
              have S7 := Lib.hid ((S6.out.below hb).alloc #[.string (ofL (wV W6 id).1), .int .i64 (wV W6 id).2] 32)
              clear hb S6 HWt c0 c1 c2 c3 c4
              obtain ⟨isw, hisw⟩ : ∃ z, z = (wanL W6 id).isSome := ⟨_, rfl⟩
              rw [← hisw]
              have HIS := Lib.hid hisw
              clear hisw
              generalize (wV W6 id).1 = wn at *
              generalize (wV W6 id).2 = wm at *
              go_upto_region 14 with fail
              generalize w7.alloc _ = w8 at *
              obtain ⟨c0, c1, c2, c3, c4⟩ := five_of (S7.out.has (Has.r (Has.r (Has.l (has_blk gx _ _)))))
              have HMo := Lib.hid (fun q => Mode_any id nm (w8.drewN q) ((bk_of S7.out.right).keepB (w' := w8.drewN q) ⟨rfl, rfl, rfl, Nat.le_refl _, fun _ _ => rfl⟩) HXI.out HNM.out)
              unfold bPtr at HMo
              have HCo := Lib.hid (fun q => Covers_any (md H6 id nm) mode (w8.drewN q) ((HT.out.keep S7.out.bel).drewN q))
              by_cases e0 : c6 = 0
              · subst e0
                have hcv := HC0.out rfl
                rw [hcv] at HCo
                generalize md H6 id nm = mdv at *
                clear hcv HC0 HC11
                go_wp2_with fail
                go_quiet (first | exact Calls.quiet_of_same (HMo.out _) | exact Calls.quiet_of_same (HCo.out _))
                have S8 := Lib.hid (S7.out.drewN nq).right
                clear S7 c0 c1 c2 c3 c4 HMo HCo HIS
                generalize w8.drewN nq = w9 at *
                go_wp2_with fail
                go_meet
                case rel => exact ⟨H6, L6, W6, HV6, HG6, HW6, S8⟩
              · by_cases e1 : c6 = 11
                · subst e1
                  have hz : isw = true := HIS.out.trans (HC11.out rfl)
                  subst hz
                  clear HC0 HC11 HMo HCo HIS e0
                  go_wp2_with fail
                  go_quiet (fail)
                  have S8 := Lib.hid (S7.out.drewN nq).right
                  clear S7 c0 c1 c2 c3 c4
                  generalize w8.drewN nq = w9 at *
                  go_wp2_with fail
                  go_meet
                  case rel => exact ⟨H6, L6, W6, HV6, HG6, HW6, S8⟩
                · have b0 : (c6 == 0) = false := by simp [e0]
                  have b1 : (c6 == 11) = false := by simp [e1]
                  clear HC0 HC11 HMo HCo HIS e0 e1
                  go_wp2_with fail
                  go_quiet (fail)
                  have S8 := Lib.hid (S7.out.drewN nq).right
                  clear S7 c0 c1 c2 c3 c4
                  generalize w8.drewN nq = w9 at *
                  go_wp2_with fail
                  go_meet
                  case rel => exact ⟨H6, L6, W6, HV6, HG6, HW6, S8⟩
            · have b1 : (kind == 1) = false := by simp [k1]
              by_cases k2 : kind = 2
              · subst k2
                have hA := Drop_st (id := id) w w4 _ S5.out HT.out HXI.out HV.out (by omega)
                unfold bPtr at hA
                have HAk := Lib.hid hA
                clear hA
                go_wp2_with fail
                refine HAk.out.mono ?_
                rintro e w6 ⟨vd, rfl, Hd, H6, L6, W6, s, hp, t, hX⟩
                have hvd := HV.out.drop hp
                have hv6 := (t.inv hvd).mono (Nat.le_succ k)
                obtain ⟨hg6, hw6⟩ := t.wt hvd (HG.out.drop HV.out.ap hp) (names_nodup (bk_of S5.out))
                obtain ⟨hn6, hz6⟩ := t.none hvd (fun nm' => by
                  have := holE_perm hp.symm (drop_apart HV.out.ap id) nm'
                  rw [md_holE, this, holE_drop HV.out.ap, mdL_without, if_pos rfl])
                have S6 := Lib.hid hX.right
                have HV6 := Lib.hid hv6
                have HG6 := Lib.hid hg6
                have HW6 := Lib.hid hw6
                have HN6 := Lib.hid hn6
                have HZ6 := Lib.hid hz6
                clear HAk hX S5 t hv6 hg6 hw6 hn6 hz6 hvd hp HV HG HW c0 c1 c2 c3 c4
                obtain ⟨c0, c1, c2, c3, c4⟩ := five_of (S6.out.has (Has.r (Has.l (has_blk gx _ _))))
                have hWt := Waits_any id w6 (bk_of S6.out) HXI.out
                rw [HN6.out] at hWt
                unfold bPtr at hWt
                have HWt := Lib.hid hWt
                clear hWt
                go_wp2_with fail
                refine HWt.out.mono ?_
                rintro e w7 ⟨rfl, hb⟩
                have S7 := Lib.hid ((S6.out.below hb).alloc #[.string (ofL (wV W6 id).1), .int .i64 (wV W6 id).2] 32)
                clear hb S6 HWt c0 c1 c2 c3 c4
                generalize (wV W6 id).1 = wn at *
                generalize (wV W6 id).2 = wm at *
                simp only [Option.isSome_none]
                go_upto_region 19 with fail
                generalize w7.alloc _ = w8 at *
                have S8 := Lib.hid S7.out.right
                clear S7
                obtain ⟨c0, c1, c2, c3, c4⟩ := five_of (S8.out.has (Has.r (Has.l (has_blk gx _ _))))
                have hH := Held_none (id := id) w8 (bk_of S8.out) HXI.out (fun x hx => by
                  have h1 := HZ6.out x.1
                  unfold md at h1
                  rw [HV6.out.ap.hol hx] at h1
                  exact h1)
                unfold bPtr at hH
                have HH := Lib.hid hH
                clear hH
                go_wp2_with fail
                refine HH.out.mono ?_
                rintro e w9 ⟨rfl, hb⟩
                have S9 := Lib.hid (S8.out.below hb)
                clear hb S8 HH c0 c1 c2 c3 c4
                go_wp2_with fail
                go_meet
                case rel => exact ⟨H6, L6, W6, HV6, HG6, HW6, S9⟩
              · have b2 : (kind == 2) = false := by simp [k2]
                by_cases k3 : kind = 3
                · subst k3
                  have hA := Cancel_any (id := id) w w4 _ S5.out HT.out HXI.out HV.out (by omega)
                  unfold bPtr at hA
                  have HAk := Lib.hid hA
                  clear hA
                  go_wp2_with fail
                  refine HAk.out.mono ?_
                  rintro e w6 ⟨vd, H6, L6, W6, s, rfl, t, hX⟩
                  have hv6 := (t.inv HV.out).mono (Nat.le_succ k)
                  obtain ⟨hg6, hw6⟩ := t.wt HV.out HG.out (names_nodup (bk_of S5.out))
                  have S6 := Lib.hid hX.right
                  have HV6 := Lib.hid hv6
                  have HG6 := Lib.hid hg6
                  have HW6 := Lib.hid hw6
                  clear HAk hX S5 t hv6 hg6 hw6 HV HG HW c0 c1 c2 c3 c4
                  go_wp2_with fail
                  go_meet
                  case rel => exact ⟨H6, L6, W6, HV6, HG6, HW6, S6⟩
                · have b3 : (kind == 3) = false := by simp [k3]
                  have HV6 := Lib.hid (HV.out.mono (Nat.le_succ k))
                  clear HV k1 k2 k3
                  go_wp2_with fail
                  go_meet
                  case rel => exact ⟨H, L, W, HV6, HG, HW, S5⟩
          case rest =>
            obtain ⟨H3, L3, W3, HV3, HG3, HW3, S6⟩ := hcut
            clear S5 c0 c1 c2 c3 c4 HV HG HW
            go_wp2_with fail
            go_loopw [11] (fun i2 wr => ∃ j : Nat, j ≤ k + 1 ∧ i2 = .int .i64 j ∧ Hid (Aid.Own w No wr (aBk bb h l wt H3 L3 W3 * (Asn.blk gx 27 #[.int .i64 kind, .int .i64 id, .string (ofL nm), .string (ofL tn), .int .i64 mode] * Asn.emp)))) (fun i2 _ => k + 1 - (intOf i2).toNat)
            case atStart => exact ⟨0, Nat.zero_le _, rfl, S6⟩
            case round =>
              clear S6
              obtain ⟨j, hj, rfl, S⟩ := hrel
              by_cases hjk : j ≤ k
              · have hjk2 : (j : Int) ≤ (k : Int) := by omega
                obtain ⟨xj, hxj⟩ : ∃ x, R[j]? = some x := ⟨R[j]'(by rw [HR.out.1]; omega), List.getElem?_eq_getElem _⟩
                have hjm : j < m := by omega
                obtain ⟨hji, b2, o2, hA2, -, hc2⟩ := (HR.out.keep S.out.bel).2 j xj hxj
                cases hA2
                have d1 : wr.cell? ⟨b, o + j * 5 + 1, none⟩ = some (.int .i64 xj.id) := hc2 1 _ rfl
                have HXJ := Lib.hid hxj
                have HJI := Lib.hid hji
                have hWt := Waits_any xj.id wr (bk_of S.out) hji
                unfold bPtr at hWt
                have HWt := Lib.hid hWt
                clear hc2 hWt hxj hji
                go_wp2_with fail
                refine HWt.out.mono ?_
                rintro e w7 ⟨rfl, hb⟩
                have S7 := Lib.hid ((S.out.below hb).alloc #[.string (ofL (wV W3 xj.id).1), .int .i64 (wV W3 xj.id).2] 32)
                clear hb S HWt d1
                generalize (wV W3 xj.id).1 = wn at *
                generalize (wV W3 xj.id).2 = wm at *
                obtain ⟨isw, hisw⟩ : ∃ z, z = (wanL W3 xj.id).isSome := ⟨_, rfl⟩
                rw [← hisw]
                have HIS := Lib.hid hisw
                clear hisw
                go_upto_region 27 with fail
                generalize w7.alloc _ = w8 at *
                have S8 := Lib.hid S7.out.right
                clear S7
                obtain ⟨-, b2, o2, hA2, -, hc2⟩ := (HR.out.keep S8.out.bel).2 j xj HXJ.out
                cases hA2
                have d1 : w8.cell? ⟨b, o + j * 5 + 1, none⟩ = some (.int .i64 xj.id) := hc2 1 _ rfl
                clear hc2
                have hB : Calls Tryz.prog 15 #[.pointer (some ⟨bb, 0, none⟩), .int .i64 xj.id] w8 fun e w' => ∃ A' n c', e = .returned (.slice A' n c') ∧ (isw != decide ((0 : Int) < ((n : Nat) : Int))) = false ∧ Below w8.heap.size w8 w' := by
                  cases hw : wanL W3 xj.id with
                  | none =>
                    refine (Blockers_no w8 (bk_of S8.out) HJI.out hw).mono ?_
                    rintro e w' ⟨A', n, c', rfl, rfl, hb⟩
                    exact ⟨A', 0, c', rfl, by rw [HIS.out, hw]; rfl, hb⟩
                  | some y =>
                    refine (Blockers_yes w8 (bk_of S8.out) (HT.out.keep S8.out.bel) HV3.out (by omega) hw).mono ?_
                    rintro e w' ⟨A', n, c', rfl, hn, hb⟩
                    have hn2 : (0 : Int) < (n : Int) := by have := hn.2 (HW3.out _ _ hw); omega
                    exact ⟨A', n, c', rfl, by rw [HIS.out, hw, decide_eq_true hn2]; rfl, hb⟩
                have HB := Lib.hid hB
                clear hB HIS
                go_wp2_with fail
                refine HB.out.mono ?_
                rintro e w9 ⟨A9, n9, c9, rfl, hq9, hb⟩
                have S9 := Lib.hid (S8.out.below hb)
                clear hb S8 HB d1
                have hcs : (isw = true ∧ 0 < n9) ∨ (isw = false ∧ ¬ 0 < n9) := by
                  by_cases hn : (0 : Int) < (n9 : Int)
                  · rw [decide_eq_true hn] at hq9
                    exact Or.inl ⟨(by cases isw with | false => cases hq9 | true => rfl), by omega⟩
                  · rw [decide_eq_false hn] at hq9
                    exact Or.inr ⟨(by cases isw with | false => rfl | true => cases hq9), by omega⟩
                clear hq9
                rcases hcs with ⟨rfl, hn9⟩ | ⟨rfl, hn9⟩
                ·
                    go_wp2_with fail
                    clear hn9
                    go_loopw [14] (fun i3 wr => ∃ z : Nat, z ≤ j ∧ i3 = .int .i64 z ∧ Hid (Aid.Own w No wr (aBk bb h l wt H3 L3 W3 * (Asn.blk gx 27 #[.int .i64 kind, .int .i64 id, .string (ofL nm), .string (ofL tn), .int .i64 mode] * Asn.emp)))) (fun i3 _ => j - (intOf i3).toNat)
                    case atStart => exact ⟨0, Nat.zero_le _, rfl, S9⟩
                    case round =>
                      clear S9
                      obtain ⟨z, hz, rfl, S⟩ := hrel
                      by_cases hzj : z < j
                      · have hzj2 : (z : Int) < (j : Int) := by omega
                        have hzm : z < m := by omega
                        obtain ⟨xz, hxz⟩ : ∃ x, R[z]? = some x := ⟨R[z]'(by rw [HR.out.1]; omega), List.getElem?_eq_getElem _⟩
                        have HXZ := Lib.hid hxz
                        clear hxz
                        have SA := Lib.hid S.out.drew
                        obtain ⟨-, b2, o2, hA2, -, hc2⟩ := (HR.out.keep SA.out.bel).2 j xj HXJ.out
                        cases hA2
                        have d1 : wr.drew.cell? ⟨b, o + j * 5 + 1, none⟩ = some (.int .i64 xj.id) := hc2 1 _ rfl
                        obtain ⟨c0, c1, c2, c3, c4⟩ := five_of (SA.out.has (Has.r (Has.l (has_blk gx _ _))))
                        clear hc2 S
                        go_wp2_with fail
                        refine wp_region_still_tail 8 (by kernel_rfl) (by kernel_rfl) ?_
                        simp only [List.take_succ_cons, List.take_zero, List.drop_succ_cons, List.drop_zero]
                        change wpStill _ _ wr.drew _ _ _
                        repeat still_step
                        refine wpStill_nil ?_
                        change wpList _ _ _ _ _ wr.drew
                        generalize wr.drew = w5 at *
                        have hM := Mode_any xj.id nm w5 (bk_of SA.out) HJI.out HNM.out
                        unfold bPtr at hM
                        have HM := Lib.hid hM
                        clear hM
                        go_wp2_with fail
                        refine HM.out.mono ?_
                        rintro e w6 ⟨rfl, hww⟩
                        rw [hww]
                        clear hww w6 HM d1 c0 c1 c2 c3 c4
                        have SB := Lib.hid SA.out.drew
                        obtain ⟨hzi, b2, o2, hA2, -, hc2⟩ := (HR.out.keep SB.out.bel).2 z xz HXZ.out
                        cases hA2
                        have d1 : w5.drew.cell? ⟨b, o + z * 5 + 1, none⟩ = some (.int .i64 xz.id) := hc2 1 _ rfl
                        obtain ⟨c0, c1, c2, c3, c4⟩ := five_of (SB.out.has (Has.r (Has.l (has_blk gx _ _))))
                        have HZI := Lib.hid hzi
                        clear hc2 SA hzi
                        go_wp2_with fail
                        refine wp_region_still_tail 8 (by kernel_rfl) (by kernel_rfl) ?_
                        simp only [List.take_succ_cons, List.take_zero, List.drop_succ_cons, List.drop_zero]
                        change wpStill _ _ w5.drew _ _ _
                        repeat still_step
                        refine wpStill_nil ?_
                        change wpList _ _ _ _ _ w5.drew
                        generalize w5.drew = w6 at *
                        have hM := Mode_any xz.id nm w6 (bk_of SB.out) HZI.out HNM.out
                        unfold bPtr at hM
                        have HM := Lib.hid hM
                        clear hM
                        go_wp2_with fail
                        refine HM.out.mono ?_
                        rintro e w7 ⟨rfl, hww⟩
                        rw [hww]
                        clear hww w7 HM d1 c0 c1 c2 c3 c4
                        obtain ⟨-, b2, o2, hA2, -, hc2⟩ := (HR.out.keep SB.out.bel).2 j xj HXJ.out
                        cases hA2
                        have d1 : w6.cell? ⟨b, o + j * 5 + 1, none⟩ = some (.int .i64 xj.id) := hc2 1 _ rfl
                        obtain ⟨-, b2, o2, hA2, -, hc2⟩ := (HR.out.keep SB.out.bel).2 z xz HXZ.out
                        cases hA2
                        have d2 : w6.cell? ⟨b, o + z * 5 + 1, none⟩ = some (.int .i64 xz.id) := hc2 1 _ rfl
                        clear hc2
                        have hgo := HG3.out.go nm xj.id xz.id
                        generalize md H3 xj.id nm = mj at *
                        generalize md H3 xz.id nm = mz at *
                        have HGo := Lib.hid (fun q => Goes_any mj mz (w6.drewN q) ((HT.out.keep SB.out.bel).drewN q))
                        have HGG := Lib.hid hgo
                        clear hgo
                        by_cases hid : xj.id = xz.id
                        · have q1 : (xj.id != xz.id) = false := by simp [hid]
                          clear hid HGo HGG
                          go_wp2_with fail
                          go_quiet (fail)
                          have SC := Lib.hid (SB.out.drewN nq)
                          clear SB d1 d2
                          generalize w6.drewN nq = w8 at *
                          go_wp2_with fail
                          go_roundw
                          case rel => exact ⟨z + 1, by omega, by go_num, SC⟩
                          case measure => simp [intOf]; omega
                        · have q1 : (xj.id != xz.id) = true := by simp [hid]
                          by_cases hj0 : mj = 0
                          · have q2 : (mj != 0) = false := by simp [hj0]
                            clear hid HGo HGG hj0
                            go_wp2_with fail
                            go_quiet (fail)
                            have SC := Lib.hid (SB.out.drewN nq)
                            clear SB d1 d2
                            generalize w6.drewN nq = w8 at *
                            go_wp2_with fail
                            go_roundw
                            case rel => exact ⟨z + 1, by omega, by go_num, SC⟩
                            case measure => simp [intOf]; omega
                          · have q2 : (mj != 0) = true := by simp [hj0]
                            by_cases hz0 : mz = 0
                            · have q3 : (mz != 0) = false := by simp [hz0]
                              clear hid HGo HGG hj0 hz0
                              go_wp2_with fail
                              go_quiet (fail)
                              have SC := Lib.hid (SB.out.drewN nq)
                              clear SB d1 d2
                              generalize w6.drewN nq = w8 at *
                              go_wp2_with fail
                              go_roundw
                              case rel => exact ⟨z + 1, by omega, by go_num, SC⟩
                              case measure => simp [intOf]; omega
                            · have q3 : (mz != 0) = true := by simp [hz0]
                              have hgz := HGG.out hid hj0 hz0
                              rw [hgz] at HGo
                              clear hid HGG hj0 hz0 hgz
                              go_wp2_with fail
                              go_quiet (exact Calls.quiet_of_same (HGo.out _))
                              have SC := Lib.hid (SB.out.drewN nq)
                              clear SB d1 d2 HGo
                              generalize w6.drewN nq = w8 at *
                              go_wp2_with fail
                              go_roundw
                              case rel => exact ⟨z + 1, by omega, by go_num, SC⟩
                              case measure => simp [intOf]; omega
                      · obtain rfl : z = j := by omega
                        go_wp2_with fail
                        go_roundw
                        case rel => exact ⟨z + 1, by omega, by go_num, S⟩
                        case measure => simp [intOf]; omega
                ·
                    go_wp2_with fail
                    clear hn9
                    go_loopw [14] (fun i3 wr => ∃ z : Nat, z ≤ j ∧ i3 = .int .i64 z ∧ Hid (Aid.Own w No wr (aBk bb h l wt H3 L3 W3 * (Asn.blk gx 27 #[.int .i64 kind, .int .i64 id, .string (ofL nm), .string (ofL tn), .int .i64 mode] * Asn.emp)))) (fun i3 _ => j - (intOf i3).toNat)
                    case atStart => exact ⟨0, Nat.zero_le _, rfl, S9⟩
                    case round =>
                      clear S9
                      obtain ⟨z, hz, rfl, S⟩ := hrel
                      by_cases hzj : z < j
                      · have hzj2 : (z : Int) < (j : Int) := by omega
                        have hzm : z < m := by omega
                        obtain ⟨xz, hxz⟩ : ∃ x, R[z]? = some x := ⟨R[z]'(by rw [HR.out.1]; omega), List.getElem?_eq_getElem _⟩
                        have HXZ := Lib.hid hxz
                        clear hxz
                        have SA := Lib.hid S.out.drew
                        obtain ⟨-, b2, o2, hA2, -, hc2⟩ := (HR.out.keep SA.out.bel).2 j xj HXJ.out
                        cases hA2
                        have d1 : wr.drew.cell? ⟨b, o + j * 5 + 1, none⟩ = some (.int .i64 xj.id) := hc2 1 _ rfl
                        obtain ⟨c0, c1, c2, c3, c4⟩ := five_of (SA.out.has (Has.r (Has.l (has_blk gx _ _))))
                        clear hc2 S
                        go_wp2_with fail
                        refine wp_region_still_tail 8 (by kernel_rfl) (by kernel_rfl) ?_
                        simp only [List.take_succ_cons, List.take_zero, List.drop_succ_cons, List.drop_zero]
                        change wpStill _ _ wr.drew _ _ _
                        repeat still_step
                        refine wpStill_nil ?_
                        change wpList _ _ _ _ _ wr.drew
                        generalize wr.drew = w5 at *
                        have hM := Mode_any xj.id nm w5 (bk_of SA.out) HJI.out HNM.out
                        unfold bPtr at hM
                        have HM := Lib.hid hM
                        clear hM
                        go_wp2_with fail
                        refine HM.out.mono ?_
                        rintro e w6 ⟨rfl, hww⟩
                        rw [hww]
                        clear hww w6 HM d1 c0 c1 c2 c3 c4
                        have SB := Lib.hid SA.out.drew
                        obtain ⟨hzi, b2, o2, hA2, -, hc2⟩ := (HR.out.keep SB.out.bel).2 z xz HXZ.out
                        cases hA2
                        have d1 : w5.drew.cell? ⟨b, o + z * 5 + 1, none⟩ = some (.int .i64 xz.id) := hc2 1 _ rfl
                        obtain ⟨c0, c1, c2, c3, c4⟩ := five_of (SB.out.has (Has.r (Has.l (has_blk gx _ _))))
                        have HZI := Lib.hid hzi
                        clear hc2 SA hzi
                        go_wp2_with fail
                        refine wp_region_still_tail 8 (by kernel_rfl) (by kernel_rfl) ?_
                        simp only [List.take_succ_cons, List.take_zero, List.drop_succ_cons, List.drop_zero]
                        change wpStill _ _ w5.drew _ _ _
                        repeat still_step
                        refine wpStill_nil ?_
                        change wpList _ _ _ _ _ w5.drew
                        generalize w5.drew = w6 at *
                        have hM := Mode_any xz.id nm w6 (bk_of SB.out) HZI.out HNM.out
                        unfold bPtr at hM
                        have HM := Lib.hid hM
                        clear hM
                        go_wp2_with fail
                        refine HM.out.mono ?_
                        rintro e w7 ⟨rfl, hww⟩
                        rw [hww]
                        clear hww w7 HM d1 c0 c1 c2 c3 c4
                        obtain ⟨-, b2, o2, hA2, -, hc2⟩ := (HR.out.keep SB.out.bel).2 j xj HXJ.out
                        cases hA2
                        have d1 : w6.cell? ⟨b, o + j * 5 + 1, none⟩ = some (.int .i64 xj.id) := hc2 1 _ rfl
                        obtain ⟨-, b2, o2, hA2, -, hc2⟩ := (HR.out.keep SB.out.bel).2 z xz HXZ.out
                        cases hA2
                        have d2 : w6.cell? ⟨b, o + z * 5 + 1, none⟩ = some (.int .i64 xz.id) := hc2 1 _ rfl
                        clear hc2
                        have hgo := HG3.out.go nm xj.id xz.id
                        generalize md H3 xj.id nm = mj at *
                        generalize md H3 xz.id nm = mz at *
                        have HGo := Lib.hid (fun q => Goes_any mj mz (w6.drewN q) ((HT.out.keep SB.out.bel).drewN q))
                        have HGG := Lib.hid hgo
                        clear hgo
                        by_cases hid : xj.id = xz.id
                        · have q1 : (xj.id != xz.id) = false := by simp [hid]
                          clear hid HGo HGG
                          go_wp2_with fail
                          go_quiet (fail)
                          have SC := Lib.hid (SB.out.drewN nq)
                          clear SB d1 d2
                          generalize w6.drewN nq = w8 at *
                          go_wp2_with fail
                          go_roundw
                          case rel => exact ⟨z + 1, by omega, by go_num, SC⟩
                          case measure => simp [intOf]; omega
                        · have q1 : (xj.id != xz.id) = true := by simp [hid]
                          by_cases hj0 : mj = 0
                          · have q2 : (mj != 0) = false := by simp [hj0]
                            clear hid HGo HGG hj0
                            go_wp2_with fail
                            go_quiet (fail)
                            have SC := Lib.hid (SB.out.drewN nq)
                            clear SB d1 d2
                            generalize w6.drewN nq = w8 at *
                            go_wp2_with fail
                            go_roundw
                            case rel => exact ⟨z + 1, by omega, by go_num, SC⟩
                            case measure => simp [intOf]; omega
                          · have q2 : (mj != 0) = true := by simp [hj0]
                            by_cases hz0 : mz = 0
                            · have q3 : (mz != 0) = false := by simp [hz0]
                              clear hid HGo HGG hj0 hz0
                              go_wp2_with fail
                              go_quiet (fail)
                              have SC := Lib.hid (SB.out.drewN nq)
                              clear SB d1 d2
                              generalize w6.drewN nq = w8 at *
                              go_wp2_with fail
                              go_roundw
                              case rel => exact ⟨z + 1, by omega, by go_num, SC⟩
                              case measure => simp [intOf]; omega
                            · have q3 : (mz != 0) = true := by simp [hz0]
                              have hgz := HGG.out hid hj0 hz0
                              rw [hgz] at HGo
                              clear hid HGG hj0 hz0 hgz
                              go_wp2_with fail
                              go_quiet (exact Calls.quiet_of_same (HGo.out _))
                              have SC := Lib.hid (SB.out.drewN nq)
                              clear SB d1 d2 HGo
                              generalize w6.drewN nq = w8 at *
                              go_wp2_with fail
                              go_roundw
                              case rel => exact ⟨z + 1, by omega, by go_num, SC⟩
                              case measure => simp [intOf]; omega
                      · obtain rfl : z = j := by omega
                        go_wp2_with fail
                        go_roundw
                        case rel => exact ⟨z + 1, by omega, by go_num, S⟩
                        case measure => simp [intOf]; omega
              · obtain rfl : j = k + 1 := by omega
                have hjk2 : ¬ ((k + 1 : Nat) : Int) ≤ (k : Int) := by omega
                go_wp2_with fail
                go_roundw
                case rel => exact ⟨k + 1, H3, L3, W3, by omega, by omega, by go_num, HV3, HG3, HW3, Lib.hid ((S.out.re (show _ = Asn.blk gx 27 #[.int .i64 kind, .int .i64 id, .string (ofL nm), .string (ofL tn), .int .i64 mode] * (aBk bb h l wt H3 L3 W3 * Asn.emp) by ac_rfl)).right)⟩
                case measure => simp [intOf]; omega
      · have h60b : ¬ (k : Int) < 60 := by omega
        go_wp2_with fail
        go_returns
        exact ⟨rfl, S.out.bel⟩
    · have hltb : ¬ (k : Int) < (m : Int) := by omega
      go_wp2_with fail
      go_returns
      exact ⟨rfl, S.out.bel⟩
end Go.Proofs.YtikdjgholjealaaGreatDoor.Lk
