/- KnotBreaks, walked. -/
import Derived.Test.YtclajkgmdhnlcaaKtS
namespace Go.Proofs.Ytclajkgmdhnlcaa.Kt
open Go.ChangeShapes Go.WideShapes Go.ChangeAt Go.RowKit Go.PlainAid Aid
set_option linter.unusedVariables false
set_option linter.unusedSimpArgs false
theorem info_pair : (Try.prog.info? 30).map (fun i => (i.zero, i.size, i.bytes)) = some (some (.agg #[.int .i64 0, .int .i64 0]), 2, 16) := by kernel_rfl
/-- Without one. -/
def wo (v : Int) (es : List Edg) : List Edg := es.filter fun e => !decide (e.1 = v) && !decide (e.2 = v)
theorem wo_snoc (v : Int) (es : List Edg) (e : Edg) : wo v (es ++ [e]) = if e.1 = v ∨ e.2 = v then wo v es else wo v es ++ [e] := by
  unfold wo
  rw [List.filter_append]
  by_cases h1 : e.1 = v
  · simp [h1]
  · by_cases h2 : e.2 = v
    · simp [h2]
    · simp [h1, h2]
theorem wo_len (v : Int) (es : List Edg) (e : Edg) (he : e ∈ es) (h : e.1 = v) : (wo v es).length < es.length := by
  unfold wo
  refine List.length_filter_lt_length_iff_exists.2 ⟨e, he, ?_⟩
  simp [h]
theorem wo_away (v : Int) (es : List Edg) : rndL (wo v es) v = [] := rnd_away fun e he => by
  have := (List.mem_filter.1 he).2
  intro h
  simp [h] at this
theorem wo_wf {v : Int} {es : List Edg} (h : Wf es) : Wf (wo v es) := fun e he => h e (List.mem_filter.1 he).1
/-- Who is in a round leads. -/
theorem rnd_lead {es : List Edg} {n v : Int} (h : v ∈ rndL es n) : ∃ e, e ∈ es ∧ e.1 = v := by
  rcases rnd_ok es n with e | ⟨L, e, -, h2⟩
  · rw [e] at h; cases h
  · rw [e] at h
    obtain ⟨i, hi, he⟩ := List.mem_iff_getElem.1 h
    exact ⟨_, h2 i v (by rw [List.getElem?_eq_getElem hi, he]), rfl⟩
theorem any_64 {es : List Edg} (hw : Wf es) (h : (anyL es).2 = true) : I64w (anyL es).1 := by
  obtain ⟨e, h1, h2, -⟩ := any_some _ _ h
  rw [show (anyL es).1 = e.1 from h2.symm]
  exact (hw e h1).1
set_option maxRecDepth 100000 in
set_option maxHeartbeats 16000000 in
theorem breaks_any (A : Option Addr) (c : Nat) (es : List Edg) (w : World) (hp : Prs w A es) (hw : Wf es) (hlen : es.length ≤ maxLen) :
    Calls Try.prog 5 #[.slice A es.length c] w fun e w' => e = .returned (.bool true) ∧ Below w.heap.size w w' := by
  have HP := Lib.hid hp
  have HW := Lib.hid hw
  have hlm : (es.length : Int) ≤ maxLen := by omega
  clear hp hw
  go_enter Try.func5, Try.ntmps5
  go_wp2_with fail
  refine (awake_any w).mono ?_
  rintro e w1 ⟨rfl, hB1⟩
  have HB1 := Lib.hid hB1
  clear hB1
  by_cases h60 : (60 : Int) < (es.length : Int)
  · go_wp2_with fail
    go_returns
    exact ⟨rfl, HB1.out⟩
  · have hn : es.length ≤ 60 := by omega
    have HP1 : Hid (Prs w1 A es) := Lib.hid (HP.out.keep HB1.out)
    clear HP
    go_wp2_with fail
    go_loopw [3, 4] (fun row i wr => ∃ (k : Nat) (A : Option Addr) (c : Nat) (L : List Edg), i = .int .i64 k ∧ row = .slice A L.length c ∧ L.length + k ≤ es.length ∧ Hid (Prs wr A L) ∧ Hid (Wf L) ∧ Hid (Below w.heap.size w wr)) (fun _ i _ => es.length + 1 - (intOf i).toNat)
    case atStart => exact ⟨0, A, c, es, rfl, rfl, by omega, HP1, HW, HB1⟩
    case round =>
      clear HP1 HB1 HW
      obtain ⟨k, A2, c2, L, rfl, rfl, hk, HP, HW, HB⟩ := hrel
      have hkl : (k : Int) ≤ (es.length : Int) := by omega
      go_wp2_with fail
      refine (edges_any A2 c2 L wr HP.out (by omega)).mono ?_
      rintro e w2 ⟨v, rfl, hX⟩
      obtain ⟨A3, c3, rfl⟩ := hX.vec.slice
      have HX := Lib.hid hX
      clear hX
      go_wp2_with fail
      refine (Any_any A3 c3 L wr w2 _ HX.out (fun W X h => Prs.of_vec h.right.vec) (by omega) HW.out).mono ?_
      rintro e w3 ⟨rfl, S3⟩
      have HB3 := Lib.hid S3.bel
      clear S3 HX
      cases ha : (anyL L).2 with
      | false =>
        go_wp2_with fail
        go_returns
        exact ⟨rfl, HB.out.trans (HB3.out.mono HB.out.size)⟩
      | true =>
        have HRN := Lib.hid (any_rnd ha)
        have HI := Lib.hid (any_64 HW.out ha)
        have HP3 := Lib.hid (HP.out.keep HB3.out)
        obtain ⟨n, hnn⟩ : ∃ n, n = (anyL L).1 := ⟨_, rfl⟩
        rw [← hnn] at HRN HI ⊢
        clear ha hnn
        go_wp2_with fail
        refine (edges_any A2 c2 L w3 HP3.out (by omega)).mono ?_
        rintro e w4 ⟨v, rfl, hX⟩
        obtain ⟨A5, c5, rfl⟩ := hX.vec.slice
        have HX := Lib.hid hX
        clear hX
        go_wp2_with fail
        refine (Round_any A5 c5 L n w3 w4 _ HX.out (fun W X h => Prs.of_vec h.right.vec) (by omega) HW.out HI.out).mono ?_
        rintro e w5 ⟨v, rfl, S5⟩
        obtain ⟨A6, c6, rfl⟩ := S5.vec.slice
        have hRl := rnd_len L n
        have HV := Lib.hid S5.vec
        have HB5 := Lib.hid S5.bel
        have hvm := maxL_mem _ HRN.out
        have HLD := Lib.hid (rnd_lead hvm)
        have hrz : (((rndL L n).length : Int) == 0) = false := by
          have := List.length_pos_iff.2 HRN.out
          simp
          intro h
          rw [h] at this
          simp at this
        have HP5 := Lib.hid (HP3.out.keep HB5.out)
        clear S5 HX hvm
        go_wp2_with fail
        refine (Victim_any A6 c6 (rndL L n) w5 HV.out (by omega)).mono ?_
        rintro e w6 ⟨rfl, hw6⟩
        rw [hw6]
        clear hw6 w6 HV
        obtain ⟨v, hv⟩ : ∃ v, v = maxL (rndL L n) := ⟨_, rfl⟩
        rw [← hv] at HLD ⊢
        clear hv
        have S0 := Lib.hid (((Aid.Own.none w5).alloc #[] 30).imp (Imp.l (blk_vec (cs := []) 0 2 rfl (by decide))))
        go_wp2_with fail
        generalize w5.alloc _ = w7 at *
        have S0 := Lib.hid S0.out
        have HP7 : Hid (∀ W X, Aid.Own w5 No W X → Prs W A2 L) := Lib.hid (fun W X h => HP5.out.keep h.bel)
        have HBB : Hid (Below w.heap.size w w5) := Lib.hid (HB.out.trans ((HB3.out.mono HB.out.size).trans (HB5.out.mono (Nat.le_trans HB.out.size HB3.out.size))))
        go_loopw [9, 10] (fun row j wr => ∃ (m : Nat) (A9 : Option Addr) (c9 : Nat), m ≤ L.length ∧ j = .int .i64 m ∧ row = .slice A9 (wo v (L.take m)).length c9 ∧ Hid (Aid.Own w5 No wr (Asn.vec 30 2 (.slice A9 (wo v (L.take m)).length c9) (wo v (L.take m)).length (cellsE (wo v (L.take m))) * Asn.emp))) (fun _ j _ => L.length - (intOf j).toNat)
        case atStart => exact ⟨0, _, _, Nat.zero_le _, rfl, rfl, S0⟩
        case round =>
          clear S0
          obtain ⟨m, A9, c9, hm, rfl, rfl, S⟩ := hrel
          by_cases hlt : m < L.length
          · obtain ⟨x, hx⟩ : ∃ x, L[m]? = some x := ⟨L[m]'hlt, List.getElem?_eq_getElem _⟩
            obtain ⟨b, o, hA, hc⟩ := (HP7.out _ _ S.out).at (by omega)
            subst hA
            obtain ⟨d0, d1⟩ := hc m x hx
            have hs : wo v (L.take (m + 1)) = if x.1 = v ∨ x.2 = v then wo v (L.take m) else wo v (L.take m) ++ [x] := by rw [take_snoc L m x hx, wo_snoc]
            have hll : (wo v (L.take m)).length ≤ 60 := by
              have h1 : (wo v (L.take m)).length ≤ (L.take m).length := List.length_filter_le _ _
              rw [List.length_take] at h1
              omega
            have HSS := Lib.hid hs
            clear hs hx hc
            by_cases h1 : x.1 = v
            · have h1b : (x.1 == v) = true := by simpa using h1
              rw [if_pos (Or.inl h1)] at HSS
              have hvv : (v == v) = true := by simp
              rw [h1] at d0
              clear h1 h1b
              go_wp2_with fail
              go_roundw
              case rel => exact ⟨m + 1, A9, c9, by omega, by go_num, by rw [HSS.out], by rw [HSS.out]; exact S⟩
              case measure => simp [intOf]; omega
            · have h1b : (x.1 == v) = false := by simpa using h1
              by_cases h2 : x.2 = v
              · have h2b : (x.2 == v) = true := by simpa using h2
                rw [if_pos (Or.inr h2)] at HSS
                have hvv : (v == v) = true := by simp
                rw [h2] at d1
                clear h2 h2b
                go_wp2_with fail
                go_roundw
                case rel => exact ⟨m + 1, A9, c9, by omega, by go_num, by rw [HSS.out], by rw [HSS.out]; exact S⟩
                case measure => simp [intOf]; omega
              · have h2b : (x.2 == v) = false := by simpa using h2
                rw [if_neg (fun h => h.elim h1 h2)] at HSS
                have hn1 : (x.1 != v) = true := by simpa using h1
                have hn2 : (x.2 != v) = true := by simpa using h2
                have S2 := Lib.hid ((S.out.alloc #[.int .i64 x.1, .int .i64 x.2] 30).re (show _ = Asn.vec 30 2 (.slice A9 (wo v (L.take m)).length c9) (wo v (L.take m)).length (cellsE (wo v (L.take m))) * (Asn.blk wr.heap.size 30 #[.int .i64 x.1, .int .i64 x.2] * Asn.emp) by ac_rfl))
                have CX : Hid (Src Try.prog 2 22 (.slice (some ⟨wr.heap.size, 0, none⟩) 1 1) 1 [.int .i64 x.1, .int .i64 x.2] (wr.alloc (.cells #[.int .i64 x.1, .int .i64 x.2] 30))) := by
                  have hbk := S2.out.has (Has.r (Has.l (has_blk wr.heap.size _ _)))
                  exact Lib.hid (Src.ofSlice _ Try.underlying22 ⟨wr.heap.size, 0, none⟩ 1 1 [.int .i64 x.1, .int .i64 x.2] rfl (fun j u hj => by
                    rw [Addr.add_lit, Nat.zero_add, hbk.cell]
                    simpa using hj) (fun u hu => by rcases List.mem_cons.1 hu with rfl | hu; rfl; rw [List.mem_singleton.1 hu]; rfl))
                clear S
                go_upto_region 19 with (with_reducible refine wpList_append_vec rfl (.tmp 63) (.tmp 68) 22 22 rfl 30 _ 2 16 Try.underlying22 info_pair rfl (by decide) (.slice A9 (wo v (L.take m)).length c9) (wo v (L.take m)).length (cellsE (wo v (L.take m))) rfl S2.out.vec (.slice (some ⟨wr.heap.size, 0, none⟩) 1 1) rfl 1 [.int .i64 x.1, .int .i64 x.2] CX.out ?c1 ?c2 ?_)
                case c1 => unfold maxLen; omega
                case c2 => omega
                intro v' w8 hv hc hf
                have S7 := ((S2.out.app hv hc hf).re (show _ = Asn.blk wr.heap.size 30 #[.int .i64 x.1, .int .i64 x.2] * (Asn.vec 30 2 v' ((wo v (L.take m)).length + 1) (cellsE (wo v (L.take m)) ++ [.int .i64 x.1, .int .i64 x.2]) * Asn.emp) by ac_rfl)).right
                rw [← cellsE_snoc] at S7
                have S7 := Lib.hid S7
                obtain ⟨A10, c10, he10⟩ := hv.slice
                subst he10
                clear hv hc hf S2 CX d0 d1
                go_wp2_with fail
                go_roundw
                case rel => exact ⟨m + 1, A10, c10, by omega, by go_num, by rw [HSS.out, List.length_append, List.length_singleton], by rw [HSS.out, List.length_append, List.length_singleton]; exact S7⟩
                case measure => simp [intOf]; omega
          · obtain rfl : m = L.length := by omega
            rw [List.take_length] at S ⊢
            obtain ⟨e0, he0, hev⟩ := HLD.out
            have hwl := wo_len v L e0 he0 hev
            have hnge : ¬ ((L.length : Int) ≤ ((wo v L).length : Int)) := by omega
            have HVW : Hid (I64w v) := Lib.hid (by rw [← hev]; exact (HW.out e0 he0).1)
            have hpr : Prs wr A9 (wo v L) := Prs.of_vec S.out.vec
            have HPR := Lib.hid hpr
            have HBW := Lib.hid S.out.bel
            clear he0 hev S0 hpr
            go_wp2_with fail
            refine (edges_any A9 c9 (wo v L) wr HPR.out (by omega)).mono ?_
            rintro e w8 ⟨v8, rfl, hX⟩
            obtain ⟨A8, c8, rfl⟩ := hX.vec.slice
            have HX := Lib.hid hX
            clear hX
            go_wp2_with fail
            refine (Round_any A8 c8 (wo v L) v wr w8 _ HX.out (fun W X h => Prs.of_vec h.right.vec) (by omega) (wo_wf HW.out) HVW.out).mono ?_
            rintro e w9 ⟨v9, rfl, S9⟩
            rw [wo_away] at S9
            obtain ⟨A10, c10, rfl⟩ := S9.vec.slice
            have HB9 := Lib.hid S9.bel
            have HPN := Lib.hid (HPR.out.keep HB9.out)
            have HBN : Hid (Below w.heap.size w w9) := Lib.hid (HBB.out.trans ((HBW.out.mono HBB.out.size).trans (HB9.out.mono (Nat.le_trans HBB.out.size HBW.out.size))))
            have HWN := Lib.hid (wo_wf (v := v) HW.out)
            clear S9 HX
            go_wp2_with fail
            go_roundw
            case rel => exact ⟨k + 1, A9, c9, wo v L, by go_num, rfl, by omega, HPN, HWN, HBN⟩
            case measure => simp [intOf]; omega
end Go.Proofs.Ytclajkgmdhnlcaa.Kt
