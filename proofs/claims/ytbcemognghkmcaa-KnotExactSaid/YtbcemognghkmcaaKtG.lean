/- tie: one and all to which ways lead get one number. -/
import Derived.Test.YtbcemognghkmcaaKtF
namespace Go.Proofs.Ytbcemognghkmcaa.Kt
open Go.ChangeShapes Go.WideShapes Go.ChangeAt Go.RowKit Go.PlainAid Aid
set_option linter.unusedVariables false
set_option linter.unusedSimpArgs false
/-! A stack: a row that is cut at its end. -/
theorem own_cut {w0 w : World} {O0 : Nat → Prop} {C : Asn} {e : TypeId} {g n cap k : Nat} {xs : List Value} (h : Own w0 O0 w (Asn.vec e 1 (.slice (some ⟨g, 0, none⟩) n cap) n xs * C)) (hk : k ≤ n) : Own w0 O0 w (Asn.vec e 1 (.slice (some ⟨g, 0, none⟩) k cap) k (xs.take k) * C) :=
  h.imp (Imp.l fun w O hq => ⟨by have := hq.1.cut hk; rwa [Nat.mul_one] at this, hq.2⟩)
def stk (S : List Int) : List Value := numsK S.reverse
theorem stk_len (S : List Int) : (stk S).length = S.length := by simp [stk, numsK]
theorem stk_cons (a : Int) (S : List Int) : stk (a :: S) = stk S ++ [.int .i64 a] := by unfold stk; rw [List.reverse_cons]; exact numsK_snoc _ _
theorem stk_top (a : Int) (S : List Int) : (stk (a :: S))[S.length]? = some (.int .i64 a) := by
  rw [stk_cons, List.getElem?_append_right (by rw [stk_len]; exact Nat.le_refl _), stk_len, Nat.sub_self]
  rfl
theorem stk_cut (a : Int) (S : List Int) : (stk (a :: S)).take S.length = stk S := by
  rw [stk_cons, ← stk_len S]
  exact List.take_left
def tstep (id : Int) (st : Fe × List Int) (tt : Int) : Fe × List Int := if hasF st.1 tt then st else ((tt, id) :: st.1, tt :: st.2)
def tin (id : Int) (tos : List Int) (st : Fe × List Int) : Fe × List Int := tos.foldl (tstep id) st
theorem tin_snoc (id : Int) (tos : List Int) (tt : Int) (st : Fe × List Int) : tin id (tos ++ [tt]) st = tstep id (tin id tos st) tt := by unfold tin; rw [List.foldl_append]; rfl
def tgo (l : Int → List Int) (id : Int) : Nat → Fe → List Int → Fe
  | 0, K, _ => K
  | n + 1, K, S => match S with
    | [] => K
    | a :: S => tgo l id n (tin id (l a) (K, S)).1 (tin id (l a) (K, S)).2
def tieF (l : Int → List Int) (id : Int) (n : Nat) (K : Fe) : Fe := if hasF K id = true then K else tgo l id n ((id, id) :: K) [id]
structure TOk (NS : List Int) (K : Fe) (S : List Int) : Prop where
  nd : (K.map Prod.fst).Nodup
  ns : ∀ p, p ∈ K → p.1 ∈ NS
  ss : ∀ a, a ∈ S → a ∈ NS
theorem TOk.len {NS : List Int} {K : Fe} {S : List Int} (h : TOk NS K S) : K.length ≤ NS.length := by
  have := nodup_le (l := K.map Prod.fst) (m := NS) h.nd (fun a ha => by
    obtain ⟨p, hp, rfl⟩ := List.mem_map.1 ha
    exact h.ns p hp)
  rwa [List.length_map] at this
theorem TOk.push {NS : List Int} {K : Fe} {S : List Int} {id tt : Int} (h : TOk NS K S) (hh : hasF K tt = false) (ht : tt ∈ NS) : TOk NS ((tt, id) :: K) (tt :: S) := by
  refine ⟨?_, fun p hp => ?_, fun a ha => ?_⟩
  · show ((tt :: K.map Prod.fst)).Nodup
    refine List.nodup_cons.2 ⟨fun hc => ?_, h.nd⟩
    rw [hasF_mem.2 hc] at hh; cases hh
  · rcases List.mem_cons.1 hp with rfl | hp
    · exact ht
    · exact h.ns p hp
  · rcases List.mem_cons.1 ha with rfl | ha
    · exact ht
    · exact h.ss a ha
theorem TOk.pop {NS : List Int} {K : Fe} {S : List Int} {a : Int} (h : TOk NS K (a :: S)) : TOk NS K S := ⟨h.nd, h.ns, fun b hb => h.ss b (List.mem_cons_of_mem _ hb)⟩
set_option maxRecDepth 100000 in
set_option maxHeartbeats 16000000 in
theorem tie_any (g : Nat) (G : List Gp) (NS : List Int) (id : Int) (f : Nat) (K : Fe) (w0 w : World) (O0 : Nat → Prop) (C : Asn) (hS : Aid.Own w0 O0 w (aMap Try.prog 3 f (iE K) * (aGm g G * C))) (hid : I64w id) (hNS : ∀ a b, b ∈ gl G a → b ∈ NS) (hidN : id ∈ NS) (hK : TOk NS K []) (hw : ∀ a, a ∈ NS → I64w a) (hn : NS.length ≤ 2000) (hl : ∀ a, (gl G a).length ≤ 1000) :
    Calls Try.prog 21 #[.map (some g), .int .i64 id, .map (some f)] w fun e w' => e = .returned (.tuple #[]) ∧ Aid.Own w0 O0 w' (aMap Try.prog 3 f (iE (tieF (gl G) id NS.length K)) * (aGm g G * C)) := by
  have HNS := Lib.hid hNS
  have HWF := Lib.hid hw
  have HL := Lib.hid hl
  have HN := Lib.hid hn
  have HS := Lib.hid hS
  have HID := Lib.hid hid
  have hlk := look_f2 (hS.kn (At.l (at_map _ _ _ _))) id hid
  obtain ⟨T, hT⟩ : ∃ T, T = tieF (gl G) id NS.length K := ⟨_, rfl⟩
  have HT := Lib.hid hT
  rw [← hT]
  clear hNS hw hn hl hS hid hT
  cases hh : hasF K id with
  | true =>
    rw [hh] at hlk
    have hTK : T = K := by rw [HT.out]; unfold tieF; rw [if_pos hh]
    rw [hTK]
    clear hTK
    go_enter Try.func21, Try.ntmps21
    go_wp2_with fail
    go_returns
    exact ⟨rfl, HS.out⟩
  | false =>
    rw [hh] at hlk
    have hTK : T = tgo (gl G) id NS.length ((id, id) :: K) [id] := by rw [HT.out]; unfold tieF; rw [if_neg (by simp [hh])]
    have HTK := Lib.hid hTK
    have hlen := hK.len
    have hN := HN.out
    have HOK := Lib.hid (hK.push (id := id) hh hidN)
    obtain ⟨w1, hst, hm1, hc1⟩ := (HS.out.kn (At.l (at_map _ _ _ _))).store kI Try.underlying40 (by rw [show (iE K).length = K.length from List.length_map _]; unfold maxLen; omega) (key_int id HID.out) (val := .int .i64 id)
    have S1 := HS.out.mapTo hc1 hm1
    rw [off_iE hh] at S1
    have e4 : ((Lit.int .i64 id, Value.int .i64 id) : En) :: iE K = iE ((id, id) :: K) := rfl
    rw [e4] at S1
    have S2 := Lib.hid ((S1.alloc #[.int .i64 id] 3).imp (Imp.l (blk_vec (cs := [.int .i64 id]) 1 1 rfl (by simp [maxLen]))))
    clear hTK HS HT S1 e4 hm1 hc1 hlen hK
    go_enter Try.func21, Try.ntmps21
    go_wp2_with fail
    clear hst hlk
    generalize w1.alloc _ = w2 at *
    go_loopw [8] (fun row wr => ∃ (n : Nat) (K : Fe) (S : List Int), Hid (T = tgo (gl G) id n K S) ∧ Hid (TOk NS K S) ∧ (NS.length - K.length + S.length ≤ n ∧ n ≤ NS.length) ∧ Hid (Aid.Own w0 O0 wr (Asn.vec 3 1 row S.length (stk S) * (aMap Try.prog 3 f (iE K) * (aGm g G * C))))) (fun row wr => NS.length - mapN wr f + lenS row)
    case atStart => exact ⟨NS.length, (id, id) :: K, [id], HTK, HOK, ⟨by have := List.length_pos_of_mem hidN; simp; omega, Nat.le_refl _⟩, S2⟩
    case round =>
      clear S2 HOK HTK
      obtain ⟨n, K, S0, HT, HK, ⟨hpot, hnN⟩, S⟩ := hrel
      have hmn := mapN_is (S.out.right.kn (At.l (at_map _ _ _ _)))
      rw [show (iE K).length = K.length from List.length_map _] at hmn
      have hFl := HK.out.len
      obtain ⟨A5, c5, he⟩ := S.out.vec.slice
      subst he
      cases S0 with
      | nil =>
        have hTF : T = K := by
          have := HT.out
          cases n <;> exact this
        subst hTF
        clear hmn
        go_wp2_with fail
        go_returns
        exact ⟨rfl, S.out.right⟩
      | cons r S1 =>
        rw [List.length_cons] at hpot S ⊢
        have hrw : I64w r := HWF.out r (HK.out.ss r List.mem_cons_self)
        have HRW := Lib.hid hrw
        rcases S.out.vec.forms with ⟨-, hz⟩ | ⟨gr, cr, her, -, hnc, hcm⟩
        · omega
        cases her
        have hnc1 : S1.length ≤ c5 := by omega
        have hcx : wr.cell? ⟨gr, S1.length, none⟩ = some (.int .i64 r) := S.out.vec.cell (stk_top r S1)
        have hlk := look_gm (k := gm_is (S.out.right.re (show _ = aGm g G * (aMap Try.prog 3 f (iE K) * C) by ac_rfl))) r hrw
        obtain ⟨A1, c1, hvs⟩ := (gm_row r (S.out.right.re (show _ = aGm g G * (aMap Try.prog 3 f (iE K) * C) by ac_rfl))).vec.slice
        rw [hvs] at hlk
        have HVS := Lib.hid hvs
        have HMN := Lib.hid hmn
        have hN := HN.out
        have SQ := own_cut S.out (k := S1.length) (by omega)
        rw [stk_cut] at SQ
        have SQ := Lib.hid SQ
        clear hvs hrw hmn S
        go_wp2_with fail
        clear hcx hlk
        have HMNX := HMN.out
        go_loopw [8, 44] (fun row i wq => ∃ (j : Nat) (K' : Fe) (S' : List Int), j ≤ (gl G r).length ∧ i = .int .i64 j ∧ Hid (tin id ((gl G r).take j) (K, S1) = (K', S')) ∧ Hid (TOk NS K' S') ∧ Hid (S'.length + K.length = S1.length + K'.length) ∧ Hid (Aid.Own w0 O0 wq (Asn.vec 3 1 row S'.length (stk S') * (aMap Try.prog 3 f (iE K') * (aGm g G * C))))) (fun _ i _ => (gl G r).length - (intOf i).toNat)
        case atStart => exact ⟨0, K, S1, Nat.zero_le _, rfl, Lib.hid rfl, Lib.hid HK.out.pop, Lib.hid rfl, SQ⟩
        case round =>
          clear SQ hnc hnc1 hcm
          obtain ⟨j, K1, S2, hj, rfl, HR, HK1, HPT, S⟩ := hrel
          obtain ⟨A6, c6, he⟩ := S.out.vec.slice
          subst he
          have hL := HL.out r
          by_cases hlt : j < (gl G r).length
          · obtain ⟨x, hx⟩ : ∃ x, (gl G r)[j]? = some x := ⟨(gl G r)[j]'hlt, List.getElem?_eq_getElem _⟩
            have hxN := HNS.out r x (List.mem_of_getElem? hx)
            have hxw := HWF.out x hxN
            have SR := gm_row r (S.out.right.re (show _ = aGm g G * (aMap Try.prog 3 f (iE K1) * C) by ac_rfl))
            rw [HVS.out] at SR
            rcases SR.vec.forms with ⟨-, hz⟩ | ⟨gy, cy, her, -⟩
            · omega
            cases her
            have hcx : wr.cell? ⟨gy, j, none⟩ = some (.int .i64 x) := SR.vec.cell (by unfold numsK; rw [List.getElem?_map, hx]; rfl)
            have hlk := look_f2 (S.out.right.kn (At.l (at_map _ _ _ _))) x hxw
            have HX := Lib.hid hx
            have HXN := Lib.hid hxN
            have HXW := Lib.hid hxw
            clear hx hxN hxw SR
            cases hh : hasF K1 x with
            | true =>
              rw [hh] at hlk
              go_wp2_with fail
              go_roundw
              case rel =>
                refine ⟨j + 1, K1, S2, by omega, by go_num, Lib.hid ?_, HK1, HPT, S⟩
                rw [take_snoc _ j x HX.out, tin_snoc, HR.out]
                unfold tstep
                rw [if_pos hh]
              case measure => simp [intOf]; omega
            | false =>
              rw [hh] at hlk
              go_upto_region 12 with fail
              clear hlk hcx
              have hF1 := HK1.out.len
              obtain ⟨w4, hst, hm4, hc4⟩ := (S.out.right.kn (At.l (at_map _ _ _ _))).store kI Try.underlying40 (by rw [show (iE K1).length = K1.length from List.length_map _]; unfold maxLen; omega) (key_int x HXW.out) (val := .int .i64 id)
              go_upto_region 13 with fail
              clear hst
              have S4 := (S.out.re (show _ = aMap Try.prog 3 f (iE K1) * (Asn.vec 3 1 (.slice A6 S2.length c6) S2.length (stk S2) * (aGm g G * C)) by ac_rfl)).mapTo hc4 hm4
              rw [off_iE hh] at S4
              have e4 : ((Lit.int .i64 x, Value.int .i64 id) : En) :: iE K1 = iE ((x, id) :: K1) := rfl
              rw [e4] at S4
              have S5 := Lib.hid ((S4.alloc #[.int .i64 x] 3).re (show _ = Asn.vec 3 1 (.slice A6 S2.length c6) S2.length (stk S2) * (Asn.blk w4.heap.size 3 #[.int .i64 x] * (aMap Try.prog 3 f (iE ((x, id) :: K1)) * (aGm g G * C))) by ac_rfl))
              clear S S4 e4 hm4 hc4
              have CX : Hid (Src Try.prog 1 26 (.slice (some ⟨w4.heap.size, 0, none⟩) 1 1) 1 [.int .i64 x] (w4.alloc (.cells #[.int .i64 x] 3))) := by
                have hbk := S5.out.has (Has.r (Has.l (has_blk w4.heap.size _ _)))
                exact Lib.hid (Src.ofSlice _ Try.underlying26 ⟨w4.heap.size, 0, none⟩ 1 1 [.int .i64 x] rfl (fun j u hj => by
                  rw [Addr.add_lit, Nat.zero_add, hbk.cell]
                  simpa using hj) (fun u hu => by rw [List.mem_singleton.1 hu]; rfl))
              have hQ1 : S2.length + 1 ≤ 8000 := by
                have := HPT.out
                have := HK.out.len
                omega
              go_upto_region 14 with (with_reducible refine wpList_append_vec rfl (.tmp 59) (.tmp 61) 26 26 rfl 3 (.int .i64 0) 1 8 Try.underlying26 info_int rfl (by decide) (.slice A6 S2.length c6) S2.length (stk S2) rfl S5.out.vec (.slice (some ⟨w4.heap.size, 0, none⟩) 1 1) rfl 1 [.int .i64 x] CX.out ?c1 ?c2 ?_)
              case c1 => unfold maxLen; omega
              case c2 => omega
              intro v' w5 hv hc hf
              have S6 := (((S5.out.app hv hc hf).re (show _ = Asn.blk w4.heap.size 3 #[.int .i64 x] * (Asn.vec 3 1 v' (S2.length + 1) (stk S2 ++ [.int .i64 x]) * (aMap Try.prog 3 f (iE ((x, id) :: K1)) * (aGm g G * C))) by ac_rfl)).right)
              rw [← stk_cons] at S6
              have S6 := Lib.hid S6
              obtain ⟨A7, c7, he5⟩ := hv.slice
              subst he5
              clear hv hc hf S5 CX
              go_wp2_with fail
              go_roundw
              case rel =>
                refine ⟨j + 1, (x, id) :: K1, x :: S2, by omega, by go_num, Lib.hid ?_, Lib.hid (HK1.out.push hh HXN.out), Lib.hid ?_, S6⟩
                · rw [take_snoc _ j x HX.out, tin_snoc, HR.out]
                  unfold tstep
                  rw [if_neg (by simp [hh])]
                · rw [List.length_cons, List.length_cons]
                  have := HPT.out
                  omega
              case measure => simp [intOf]; omega
          · have hje : j = (gl G r).length := by omega
            subst hje
            have hR := HR.out
            rw [List.take_length] at hR
            have hpt := HPT.out
            have hF1 := HK1.out.len
            clear HR HPT
            go_wp2_with fail
            go_roundw
            case rel =>
              obtain ⟨n, rfl⟩ : ∃ n', n = n' + 1 := ⟨n - 1, by omega⟩
              refine ⟨n, K1, S2, Lib.hid ?_, HK1, ⟨by omega, by omega⟩, S⟩
              · rw [HT.out]
                show tgo (gl G) id n (tin id (gl G r) (K, S1)).1 (tin id (gl G r) (K, S1)).2 = _
                rw [hR]
            case measure =>
              have hm1 := mapN_is (S.out.right.kn (At.l (at_map _ _ _ _)))
              rw [show (iE K1).length = K1.length from List.length_map _] at hm1
              rw [hm1, HMNX]
              simp only [lenS]
              omega
end Go.Proofs.Ytbcemognghkmcaa.Kt
