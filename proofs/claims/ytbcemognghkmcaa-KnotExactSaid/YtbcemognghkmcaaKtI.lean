/- left, walked. -/
import Derived.Test.YtbcemognghkmcaaKtH
namespace Go.Proofs.Ytbcemognghkmcaa.Kt
open Go.ChangeShapes Go.WideShapes Go.ChangeAt Go.RowKit Go.PlainAid Aid
set_option linter.unusedVariables false
set_option linter.unusedSimpArgs false
def leftL (l : Int → List Int) (NS : List Int) (es : List Edg) : List Int := lgo l (potL l NS [] (es.map (·.1)).reverse) [] (es.map (·.1)).reverse []
theorem lgo_nil (l : Int → List Int) (n : Nat) (K : Fe) (O : List Int) : lgo l n K [] O = O := by cases n <;> rfl
def frm (es : List Edg) (k : Nat) : List Int := (es.take k).map (·.1)
theorem frm_succ (es : List Edg) (k : Nat) (x : Edg) (h : es[k]? = some x) : frm es (k + 1) = frm es k ++ [x.1] := by
  unfold frm
  rw [take_snoc es k x h, List.map_append, List.map_singleton]
theorem frm_all (es : List Edg) : stk (es.map (·.1)).reverse = numsK (frm es es.length) := by
  unfold frm stk
  rw [List.take_length, List.reverse_reverse]
set_option maxRecDepth 100000 in
set_option maxHeartbeats 16000000 in
theorem left_any (g : Nat) (G : List Gp) (A : Option Addr) (c : Nat) (es : List Edg) (NS : List Int) (w0 w : World) (C : Asn) (hS : Aid.Own w0 No w (aGm g G * C)) (hP : ∀ W X, Aid.Own w0 No W (X * C) → Prs W A es) (hn : es.length ≤ 900) (hes : ∀ e, e ∈ es → e.1 ∈ NS) (hNS : ∀ a b, b ∈ gl G a → b ∈ NS) (hw : ∀ a, a ∈ NS → I64w a) (hnN : NS.length ≤ 2000) (hl : ∀ a, (gl G a).length ≤ 1000) :
    Calls Try.prog 20 #[.map (some g), .slice A es.length c] w fun e w' => ∃ v, e = .returned v ∧ Aid.Own w0 No w' (Asn.vec 3 1 v (leftL (gl G) NS es).length (numsK (leftL (gl G) NS es)) * (aGm g G * C)) := by
  obtain ⟨R, hR⟩ : ∃ R, R = leftL (gl G) NS es := ⟨_, rfl⟩
  rw [← hR]
  have HR := Lib.hid hR
  have HP := Lib.hid hP
  have HES := Lib.hid hes
  have HNS := Lib.hid hNS
  have HWF := Lib.hid hw
  have HL := Lib.hid hl
  have HN := Lib.hid hnN
  have hmm := @run_makeMap Try.prog
  have S0 := Lib.hid ((hS.nilVec 3 1).nilVec 3 1)
  clear hR hP hes hNS hw hl hnN hS
  go_enter Try.func20, Try.ntmps20
  go_wp2_with fail
  go_loopw [6, 15] (fun row i wr => ∃ (k : Nat), k ≤ es.length ∧ i = .int .i64 k ∧ Hid (Aid.Own w0 No wr (Asn.vec 3 1 row k (numsK (frm es k)) * (Asn.vec 3 1 (.slice none 0 0) 0 [] * (aGm g G * C))))) (fun _ i _ => es.length - (intOf i).toNat)
  case atStart => exact ⟨0, Nat.zero_le _, rfl, S0⟩
  case round =>
    clear S0
    obtain ⟨k, hk, rfl, S⟩ := hrel
    obtain ⟨A6, c6, he⟩ := S.out.vec.slice
    subst he
    by_cases hlt : k < es.length
    · obtain ⟨x, hx⟩ : ∃ x, es[k]? = some x := ⟨es[k]'hlt, List.getElem?_eq_getElem _⟩
      rcases HP.out _ (Asn.vec 3 1 (.slice A6 k c6) k (numsK (frm es k)) * (Asn.vec 3 1 (.slice none 0 0) 0 [] * aGm g G)) (S.out.re (by ac_rfl)) with e | ⟨b, o, hA, hb, hc⟩
      · rw [e] at hlt; simp at hlt
      subst hA
      obtain ⟨d0, d1⟩ := hc k x hx
      have HX := Lib.hid hx
      have S1 := Lib.hid ((S.out.alloc #[.int .i64 x.1, .int .i64 x.2] 36).re (show _ = Asn.vec 3 1 (.slice A6 k c6) k (numsK (frm es k)) * (Asn.blk wr.heap.size 36 #[.int .i64 x.1, .int .i64 x.2] * (Asn.vec 3 1 (.slice none 0 0) 0 [] * (aGm g G * C))) by ac_rfl))
      clear hc hx S hb
      go_upto_region 5 with fail
      obtain ⟨ge, hgz⟩ : ∃ g, g = wr.heap.size := ⟨_, rfl⟩
      rw [← hgz] at S1 ⊢
      clear hgz d0 d1
      generalize wr.alloc _ = w2 at *
      have hbk := S1.out.has (Has.r (Has.l (has_blk ge _ _)))
      have d0 : w2.cell? ⟨ge, 0, none⟩ = some (.int .i64 x.1) := hbk.cell 0
      have S2 := Lib.hid ((S1.out.alloc #[.int .i64 x.1] 3).re (show _ = Asn.vec 3 1 (.slice A6 k c6) k (numsK (frm es k)) * (Asn.blk w2.heap.size 3 #[.int .i64 x.1] * (Asn.blk ge 36 #[.int .i64 x.1, .int .i64 x.2] * (Asn.vec 3 1 (.slice none 0 0) 0 [] * (aGm g G * C)))) by ac_rfl))
      have CX : Hid (Src Try.prog 1 26 (.slice (some ⟨w2.heap.size, 0, none⟩) 1 1) 1 [.int .i64 x.1] (w2.alloc (.cells #[.int .i64 x.1] 3))) := by
        have hbk := S2.out.has (Has.r (Has.l (has_blk w2.heap.size _ _)))
        exact Lib.hid (Src.ofSlice _ Try.underlying26 ⟨w2.heap.size, 0, none⟩ 1 1 [.int .i64 x.1] rfl (fun j u hj => by
          rw [Addr.add_lit, Nat.zero_add, hbk.cell]
          simpa using hj) (fun u hu => by rw [List.mem_singleton.1 hu]; rfl))
      clear hbk S1
      go_upto_region 6 with (with_reducible refine wpList_append_vec rfl (.tmp 19) (.tmp 22) 26 26 rfl 3 (.int .i64 0) 1 8 Try.underlying26 info_int rfl (by decide) (.slice A6 k c6) k (numsK (frm es k)) rfl S2.out.vec (.slice (some ⟨w2.heap.size, 0, none⟩) 1 1) rfl 1 [.int .i64 x.1] CX.out ?c1 ?c2 ?_)
      case c1 => unfold maxLen; omega
      case c2 => omega
      intro v' w5 hv hc hf
      have S6 := (((S2.out.app hv hc hf).re (show _ = (Asn.blk w2.heap.size 3 #[.int .i64 x.1] * Asn.blk ge 36 #[.int .i64 x.1, .int .i64 x.2]) * (Asn.vec 3 1 v' (k + 1) (numsK (frm es k) ++ [.int .i64 x.1]) * (Asn.vec 3 1 (.slice none 0 0) 0 [] * (aGm g G * C))) by ac_rfl)).right)
      rw [show numsK (frm es k) ++ [.int .i64 x.1] = numsK (frm es (k + 1)) by rw [frm_succ es k x HX.out, numsK_snoc]] at S6
      have S6 := Lib.hid S6
      obtain ⟨A7, c7, he5⟩ := hv.slice
      subst he5
      clear hv hc hf S2 CX d0
      go_wp2_with fail
      go_roundw
      case rel => exact ⟨k + 1, by omega, by go_num, S6⟩
      case measure => simp [intOf]; omega
    · obtain rfl : k = es.length := by omega
      obtain ⟨N, hN⟩ : ∃ N, N = potL (gl G) NS [] (es.map (·.1)).reverse := ⟨_, rfl⟩
      have hNb : N ≤ 3000000 := by
        rw [hN]
        have h1 := sumN_const (f := wgt (gl G) []) (d := 1001) NS (fun b => by
          have := HL.out b
          unfold wgt
          split <;> omega)
        have := HN.out
        unfold potL
        rw [List.length_reverse, List.length_map]
        omega
      have HR1 : Hid (R = lgo (gl G) N [] (es.map (·.1)).reverse []) := Lib.hid (by rw [HR.out, hN]; rfl)
      have HK0 : Hid (LOk (gl G) NS N N [] (es.map (·.1)).reverse []) := Lib.hid ⟨by rw [hN]; exact Nat.le_refl _, Nat.le_refl _, fun b => ⟨by rw [show dF [] b = 0 from rfl]; simp, by rw [show dF [] b = 0 from rfl]; simp⟩, by simp, by simp, fun a ha => by
        obtain ⟨e, he, rfl⟩ := List.mem_map.1 (List.mem_reverse.1 ha)
        exact HES.out e he, fun a ha => by cases ha⟩
      have S1 := S.out.mapNew Try.prog 3
      rw [← frm_all] at S1
      obtain ⟨f, hf⟩ : ∃ f, f = wr.heap.size := ⟨_, rfl⟩
      have S2 := S1.re (show _ = Asn.vec 3 1 (.slice A6 es.length c6) es.length (stk (es.map (·.1)).reverse) * (Asn.vec 3 1 (.slice none 0 0) ([] : List Int).length (numsK []) * (aMap Try.prog 3 f (iE []) * (aGm g G * C))) by rw [← hf]; show aMap _ _ f [] * _ = Asn.vec _ _ _ _ _ * (Asn.vec _ _ _ 0 [] * (aMap _ _ f [] * _)); ac_rfl)
      have S2 := Lib.hid S2
      clear hN HR S S1
      go_wp2_with fail
      rw [← hf]
      clear hf hmm
      generalize wr.alloc _ = w1 at *
      obtain ⟨SS, hSS⟩ : ∃ SS, SS = (es.map (·.1)).reverse := ⟨_, rfl⟩
      have hSL : es.length = SS.length := by rw [hSS]; simp
      rw [hSL] at S2 ⊢
      rw [← hSS] at S2 HR1 HK0
      clear hSS hSL
      obtain ⟨Rl, hRl⟩ : ∃ Rl : Nat → Value → Value → World → Prop, ∀ n row o wr, Rl n row o wr ↔ ∃ (K : Fe) (S O : List Int), Hid (R = lgo (gl G) n K S O) ∧ Hid (LOk (gl G) NS N n K S O) ∧ Hid (Aid.Own w0 No wr (Asn.vec 3 1 row S.length (stk S) * (Asn.vec 3 1 o O.length (numsK O) * (aMap Try.prog 3 f (iE K) * (aGm g G * C))))) := ⟨_, fun _ _ _ _ => Iff.rfl⟩
      have HRL := Lib.hid hRl
      clear hRl
      go_loopw [5, 6] (fun o row wr => ∃ n, Rl n row o wr) (fun o row wr => leastN (fun n => Rl n row o wr))
      case atStart => exact ⟨N, (HRL.out _ _ _ _).2 ⟨[], SS, [], HR1, HK0, S2⟩⟩
      case round =>
        clear S2 HR1 HK0
        have hmin := leastN_is hrel
        generalize hn2 : leastN (fun n => Rl n _ _ _) = n at hmin
        obtain ⟨K, S0, O, HT, HK, S⟩ := (HRL.out _ _ _ _).1 hmin
        obtain ⟨A6, c6, he⟩ := S.out.vec.slice
        subst he
        obtain ⟨A5, c5, he⟩ := S.out.right.vec.slice
        subst he
        have HN2 := Lib.hid hn2
        clear hn2 hmin hrel
        cases S0 with
        | nil =>
          have hTF := HT.out
          rw [lgo_nil] at hTF
          subst hTF
          go_wp2_with fail
          go_returns
          exact ⟨_, rfl, (S.out.right.re (show _ = aMap Try.prog 3 f (iE K) * (Asn.vec 3 1 (.slice A5 R.length c5) R.length (numsK R) * (aGm g G * C)) by ac_rfl)).right⟩
        | cons r S1 =>
          obtain ⟨n, rfl⟩ : ∃ n', n = n' + 1 := ⟨n - 1, by have := HK.out.pos; omega⟩
          have hlenS := HK.out.lens
          have hnN2 := HK.out.nn
          rw [List.length_cons] at S hlenS HN2 ⊢
          have hrw : I64w r := HWF.out r (HK.out.ss r List.mem_cons_self)
          have HRW := Lib.hid hrw
          rcases S.out.vec.forms with ⟨-, hz⟩ | ⟨gr, cr, her, -, hnc, hcm⟩
          · omega
          cases her
          have hnc1 : S1.length ≤ c6 := by omega
          have hcx : wr.cell? ⟨gr, S1.length, none⟩ = some (.int .i64 r) := S.out.vec.cell (stk_top r S1)
          have hl0 := look_f (S.out.right.right.kn (At.l (at_map _ _ _ _))) r hrw
          have hds := HK.out.bds r
          rw [dF_bump, if_pos rfl] at hds
          have hkl := HK.out.kl
          obtain ⟨w4, hst, hm4, hc4⟩ := (S.out.right.right.kn (At.l (at_map _ _ _ _))).store kI Try.underlying40 (by rw [show (iE K).length = K.length from List.length_map _]; unfold maxLen; omega) (key_int r hrw) (val := .int .i64 (dF K r + 1))
          have S4 := (S.out.re (show _ = aMap Try.prog 3 f (iE K) * (Asn.vec 3 1 (.slice (some ⟨gr, 0, none⟩) (S1.length + 1) c6) (S1.length + 1) (stk (r :: S1)) * (Asn.vec 3 1 (.slice A5 O.length c5) O.length (numsK O) * (aGm g G * C))) by ac_rfl)).mapTo hc4 hm4
          rw [off_iE2] at S4
          have e4 : ((Lit.int .i64 r, Value.int .i64 (dF K r + 1)) : En) :: iE (offF K r) = iE (bump K r) := rfl
          rw [e4] at S4
          have S5 := Lib.hid (S4.re (show _ = Asn.vec 3 1 (.slice (some ⟨gr, 0, none⟩) (S1.length + 1) c6) (S1.length + 1) (stk (r :: S1)) * (Asn.vec 3 1 (.slice A5 O.length c5) O.length (numsK O) * (aMap Try.prog 3 f (iE (bump K r)) * (aGm g G * C))) by ac_rfl))
          go_upto_region 11 with fail
          clear hst hcx hl0 S S4 hm4 hc4 e4 hkl
          have hl1 := look_f (S5.out.right.right.kn (At.l (at_map _ _ _ _))) r hrw
          obtain ⟨K2, hK2⟩ : ∃ K2, K2 = bump K r := ⟨_, rfl⟩
          have HK2 := Lib.hid hK2
          rw [← hK2] at S5 hl1
          clear hK2
          by_cases h1 : dF K2 r = 1
          · have h1b : (dF K2 r == 1) = true := by simpa using h1
            have hlk := look_gm (k := gm_is (S5.out.re (show _ = aGm g G * (Asn.vec 3 1 (.slice (some ⟨gr, 0, none⟩) (S1.length + 1) c6) (S1.length + 1) (stk (r :: S1)) * (Asn.vec 3 1 (.slice A5 O.length c5) O.length (numsK O) * (aMap Try.prog 3 f (iE K2) * C))) by ac_rfl))) r hrw
            obtain ⟨A1, c1, hvs⟩ := (gm_row r (S5.out.re (show _ = aGm g G * (Asn.vec 3 1 (.slice (some ⟨gr, 0, none⟩) (S1.length + 1) c6) (S1.length + 1) (stk (r :: S1)) * (Asn.vec 3 1 (.slice A5 O.length c5) O.length (numsK O) * (aMap Try.prog 3 f (iE K2) * C))) by ac_rfl))).vec.slice
            rw [hvs] at hlk
            have HVS := Lib.hid hvs
            have HLK := HK.out.first HNS.out (by rw [← HK2.out]; exact h1)
            have hlen2 := HLK.lens
            have HLK := Lib.hid HLK
            have hRR : R = lgo (gl G) n K2 ((newL K2 (gl G r)).reverse ++ r :: S1) O := by
              rw [HT.out, HK2.out]
              show (if dF (bump K r) r = 1 then _ else _) = _
              rw [if_pos (by rw [← HK2.out]; exact h1)]
            have HRR := Lib.hid hRR
            rw [← HK2.out] at HLK hlen2
            have hpl : (newL K2 (gl G r)).length + S1.length + 1 ≤ n := by
              rw [List.length_append, List.length_reverse, List.length_cons] at hlen2
              omega
            clear hvs hrw hRR HT hlen2
            go_wp2_with fail
            clear hl1 hlk
            go_loopw [6, 47] (fun row i wq => ∃ (j : Nat), j ≤ (gl G r).length ∧ i = .int .i64 j ∧ Hid (Aid.Own w0 No wq (Asn.vec 3 1 row ((newL K2 ((gl G r).take j)).reverse ++ r :: S1).length (stk ((newL K2 ((gl G r).take j)).reverse ++ r :: S1)) * (Asn.vec 3 1 (.slice A5 O.length c5) O.length (numsK O) * (aMap Try.prog 3 f (iE K2) * (aGm g G * C)))))) (fun _ i _ => (gl G r).length - (intOf i).toNat)
            case atStart => exact ⟨0, Nat.zero_le _, rfl, S5⟩
            case round =>
              clear S5
              obtain ⟨j, hj, rfl, S⟩ := hrel
              obtain ⟨SJ, hSJ⟩ : ∃ SJ, SJ = (newL K2 ((gl G r).take j)).reverse ++ r :: S1 := ⟨_, rfl⟩
              rw [← hSJ] at S
              obtain ⟨A8, c8, he⟩ := S.out.vec.slice
              subst he
              have hL := HL.out r
              by_cases hlt : j < (gl G r).length
              · obtain ⟨x, hx⟩ : ∃ x, (gl G r)[j]? = some x := ⟨(gl G r)[j]'hlt, List.getElem?_eq_getElem _⟩
                have hxN := HNS.out r x (List.mem_of_getElem? hx)
                have hxw := HWF.out x hxN
                have SR := gm_row r (S.out.re (show _ = aGm g G * (Asn.vec 3 1 (.slice A8 SJ.length c8) SJ.length (stk SJ) * (Asn.vec 3 1 (.slice A5 O.length c5) O.length (numsK O) * (aMap Try.prog 3 f (iE K2) * C))) by ac_rfl))
                rw [HVS.out] at SR
                rcases SR.vec.forms with ⟨-, hz⟩ | ⟨gy, cy, her, -⟩
                · omega
                cases her
                have hcx : wr.cell? ⟨gy, j, none⟩ = some (.int .i64 x) := SR.vec.cell (by unfold numsK; rw [List.getElem?_map, hx]; rfl)
                have hlk := look_f (S.out.right.right.kn (At.l (at_map _ _ _ _))) x hxw
                have hnw : newL K2 ((gl G r).take (j + 1)) = if dF K2 x = 0 then newL K2 ((gl G r).take j) ++ [x] else newL K2 ((gl G r).take j) := by
                  rw [take_snoc _ j x hx, newL_snoc]
                have HNW := Lib.hid hnw
                have HSJ := Lib.hid hSJ
                clear hx hxN SR hnw hSJ
                by_cases h0 : dF K2 x = 0
                · have h0b : (dF K2 x == 0) = true := by simpa using h0
                  have hSJn : x :: SJ = (newL K2 ((gl G r).take (j + 1))).reverse ++ r :: S1 := by
                    rw [HNW.out, if_pos h0, HSJ.out]; simp
                  have hsl : SJ.length ≤ 4000000 := by
                    rw [HSJ.out, List.length_append, List.length_reverse, List.length_cons]
                    have h5 : (newL K2 ((gl G r).take j)).length ≤ 1000 := by
                      have := List.length_filter_le (fun b => decide (dF K2 b = 0)) ((gl G r).take j)
                      have h6 := List.length_take_le j (gl G r)
                      unfold newL
                      have := List.length_take (i := j) (l := gl G r)
                      omega
                    omega
                  have HSN := Lib.hid hSJn
                  have S6 := Lib.hid ((S.out.alloc #[.int .i64 x] 3).re (show _ = Asn.vec 3 1 (.slice A8 SJ.length c8) SJ.length (stk SJ) * (Asn.blk wr.heap.size 3 #[.int .i64 x] * (Asn.vec 3 1 (.slice A5 O.length c5) O.length (numsK O) * (aMap Try.prog 3 f (iE K2) * (aGm g G * C)))) by ac_rfl))
                  have CX : Hid (Src Try.prog 1 26 (.slice (some ⟨wr.heap.size, 0, none⟩) 1 1) 1 [.int .i64 x] (wr.alloc (.cells #[.int .i64 x] 3))) := by
                    have hbk := S6.out.has (Has.r (Has.l (has_blk wr.heap.size _ _)))
                    exact Lib.hid (Src.ofSlice _ Try.underlying26 ⟨wr.heap.size, 0, none⟩ 1 1 [.int .i64 x] rfl (fun j u hj => by
                      rw [Addr.add_lit, Nat.zero_add, hbk.cell]
                      simpa using hj) (fun u hu => by rw [List.mem_singleton.1 hu]; rfl))
                  clear S hSJn
                  go_upto_region 16 with fail
                  clear hcx hlk
                  go_upto_region 17 with (with_reducible refine wpList_append_vec rfl (.tmp 55) (.tmp 57) 26 26 rfl 3 (.int .i64 0) 1 8 Try.underlying26 info_int rfl (by decide) (.slice A8 SJ.length c8) SJ.length (stk SJ) rfl S6.out.vec (.slice (some ⟨wr.heap.size, 0, none⟩) 1 1) rfl 1 [.int .i64 x] CX.out ?c1 ?c2 ?_)
                  case c1 => unfold maxLen; omega
                  case c2 => omega
                  intro v' w5 hv hc hf
                  have S7 := ((S6.out.app hv hc hf).re (show _ = Asn.blk wr.heap.size 3 #[.int .i64 x] * (Asn.vec 3 1 v' (SJ.length + 1) (stk SJ ++ [.int .i64 x]) * (Asn.vec 3 1 (.slice A5 O.length c5) O.length (numsK O) * (aMap Try.prog 3 f (iE K2) * (aGm g G * C)))) by ac_rfl)).right
                  rw [← stk_cons] at S7
                  have S7 := Lib.hid S7
                  obtain ⟨A7, c7, he5⟩ := hv.slice
                  subst he5
                  clear hv hc hf S6 CX
                  go_wp2_with fail
                  go_roundw
                  case rel =>
                    refine ⟨j + 1, by omega, by go_num, ?_⟩
                    rw [← HSN.out]
                    exact S7
                  case measure => simp [intOf]; omega
                · have h0b : (dF K2 x == 0) = false := by simpa using h0
                  have hSJn : SJ = (newL K2 ((gl G r).take (j + 1))).reverse ++ r :: S1 := by
                    rw [HNW.out, if_neg h0, HSJ.out]
                  have HSN := Lib.hid hSJn
                  clear hSJn
                  go_wp2_with fail
                  go_roundw
                  case rel =>
                    refine ⟨j + 1, by omega, by go_num, ?_⟩
                    rw [← HSN.out]
                    exact S
                  case measure => simp [intOf]; omega
              · have hje : j = (gl G r).length := by omega
                subst hje
                rw [List.take_length] at hSJ
                have hnew : Rl n (.slice A8 SJ.length c8) (.slice A5 O.length c5) wr := (HRL.out _ _ _ _).2 ⟨K2, SJ, O, by rw [hSJ]; exact HRR, by rw [hSJ]; exact HLK, S⟩
                clear S hSJ
                go_wp2_with fail
                go_roundw
                case rel => exact ⟨n, hnew⟩
                case measure =>
                  rw [HN2.out]
                  exact Nat.lt_succ_of_le (leastN_le hnew)
          · have h1b : (dF K2 r == 1) = false := by simpa using h1
            have SQ := own_cut S5.out (k := S1.length) (by omega)
            rw [stk_cut] at SQ
            by_cases h2 : dF K2 r = 2
            · have h2b : (dF K2 r == 2) = true := by simpa using h2
              have HLK := HK.out.out
              rw [← HK2.out] at HLK
              have hRR : R = lgo (gl G) n K2 S1 (O ++ [r]) := by
                rw [HT.out, HK2.out]
                show (if dF (bump K r) r = 1 then _ else if dF (bump K r) r = 2 then _ else _) = _
                rw [if_neg (by rw [← HK2.out]; exact h1), if_pos (by rw [← HK2.out]; exact h2)]
              have hol := HLK.ol
              have S6 := Lib.hid ((SQ.alloc #[.int .i64 r] 3).re (show _ = Asn.vec 3 1 (.slice A5 O.length c5) O.length (numsK O) * (Asn.blk w4.heap.size 3 #[.int .i64 r] * (Asn.vec 3 1 (.slice (some ⟨gr, 0, none⟩) S1.length c6) S1.length (stk S1) * (aMap Try.prog 3 f (iE K2) * (aGm g G * C)))) by ac_rfl))
              have CX : Hid (Src Try.prog 1 26 (.slice (some ⟨w4.heap.size, 0, none⟩) 1 1) 1 [.int .i64 r] (w4.alloc (.cells #[.int .i64 r] 3))) := by
                have hbk := S6.out.has (Has.r (Has.l (has_blk w4.heap.size _ _)))
                exact Lib.hid (Src.ofSlice _ Try.underlying26 ⟨w4.heap.size, 0, none⟩ 1 1 [.int .i64 r] rfl (fun j u hj => by
                  rw [Addr.add_lit, Nat.zero_add, hbk.cell]
                  simpa using hj) (fun u hu => by rw [List.mem_singleton.1 hu]; rfl))
              have HLK := Lib.hid HLK
              have HRR := Lib.hid hRR
              rw [List.length_append, List.length_singleton] at hol
              clear hRR SQ S5
              go_upto_region 20 with fail
              clear hl1
              go_wp2_with (with_reducible refine wpList_append_vec rfl (.tmp 69) (.tmp 71) 26 26 rfl 3 (.int .i64 0) 1 8 Try.underlying26 info_int rfl (by decide) (.slice A5 O.length c5) O.length (numsK O) rfl S6.out.vec (.slice (some ⟨w4.heap.size, 0, none⟩) 1 1) rfl 1 [.int .i64 r] CX.out ?c1 ?c2 ?_)
              case c1 => unfold maxLen; omega
              case c2 => omega
              intro v' w5 hv hc hf
              have S7 := ((S6.out.app hv hc hf).re (show _ = Asn.blk w4.heap.size 3 #[.int .i64 r] * (Asn.vec 3 1 (.slice (some ⟨gr, 0, none⟩) S1.length c6) S1.length (stk S1) * (Asn.vec 3 1 v' (O.length + 1) (numsK O ++ [.int .i64 r]) * (aMap Try.prog 3 f (iE K2) * (aGm g G * C)))) by ac_rfl)).right
              rw [← numsK_snoc] at S7
              obtain ⟨A7, c7, he5⟩ := hv.slice
              subst he5
              have hnew : Rl n (.slice (some ⟨gr, 0, none⟩) S1.length c6) (.slice A7 (O.length + 1) c7) w5 := (HRL.out _ _ _ _).2 ⟨K2, S1, O ++ [r], HRR, HLK, Lib.hid (by rw [show (O ++ [r]).length = O.length + 1 by simp]; exact S7)⟩
              clear hv hc hf S6 CX S7
              go_wp2_with fail
              go_roundw
              case rel => exact ⟨n, hnew⟩
              case measure =>
                rw [HN2.out]
                exact Nat.lt_succ_of_le (leastN_le hnew)
            · have h2b : (dF K2 r == 2) = false := by simpa using h2
              have HLK := HK.out.pop
              rw [← HK2.out] at HLK
              have hRR : R = lgo (gl G) n K2 S1 O := by
                rw [HT.out, HK2.out]
                show (if dF (bump K r) r = 1 then _ else if dF (bump K r) r = 2 then _ else _) = _
                rw [if_neg (by rw [← HK2.out]; exact h1), if_neg (by rw [← HK2.out]; exact h2)]
              have hnew : Rl n (.slice (some ⟨gr, 0, none⟩) S1.length c6) (.slice A5 O.length c5) w4 := (HRL.out _ _ _ _).2 ⟨K2, S1, O, Lib.hid hRR, Lib.hid HLK, Lib.hid SQ⟩
              clear hRR SQ S5 HLK
              go_wp2_with fail
              go_roundw
              case rel => exact ⟨n, hnew⟩
              case measure =>
                rw [HN2.out]
                exact Nat.lt_succ_of_le (leastN_le hnew)
end Go.Proofs.Ytbcemognghkmcaa.Kt
