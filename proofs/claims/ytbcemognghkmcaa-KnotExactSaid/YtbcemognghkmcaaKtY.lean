/- The document's Next and Round, walked. -/
import Derived.Test.YtbcemognghkmcaaKtX
namespace Go.Proofs.Ytbcemognghkmcaa.Kt
open Go.ChangeShapes Go.WideShapes Go.ChangeAt Go.RowKit Go.PlainAid Aid
set_option linter.unusedVariables false
set_option linter.unusedSimpArgs false
theorem cand_snoc (es : List Edg) (a id k : Int) (m : List Edg) (x : Edg) : leastL (candN es a id k (m ++ [x])) = if x.1 = a ∧ farR es x.2 id = k - 1 then lstep (leastL (candN es a id k m)) x.2 else leastL (candN es a id k m) := by
  unfold candN
  rw [List.filter_append, List.map_append]
  by_cases h : x.1 = a ∧ farR es x.2 id = k - 1
  · have e : ([x].filter (okN es a id k)) = [x] := by unfold okN; simp [h.1, h.2]
    rw [if_pos h, e]
    exact leastL_snoc _ _
  · have e : ([x].filter (okN es a id k)) = [] := by
      unfold okN
      rw [List.filter_cons, if_neg (by simpa using h)]; rfl
    rw [if_neg h, e, List.map_nil, List.append_nil]
set_option maxRecDepth 100000 in
set_option maxHeartbeats 16000000 in
theorem Next_any (A : Option Addr) (c : Nat) (es : List Edg) (a id k : Int) (w : World) (hp : Prs w A es) (hn : es.length ≤ 100) (hk : 0 ≤ k ∧ k ≤ 1000) :
    Calls Try.prog 15 #[.slice A es.length c, .int .i64 a, .int .i64 id, .int .i64 k] w fun e w' => e = .returned (.tuple #[.int .i64 (nextR es a id k).1, .bool (nextR es a id k).2]) ∧ Below w.heap.size w w' := by
  have HP := Lib.hid hp
  clear hp
  have HR : Hid (leastL (candN es a id k es) = nextR es a id k) := Lib.hid rfl
  generalize nextR es a id k = R at *
  have B0 := Lib.hid (Below.refl w.heap.size w)
  go_enter Try.func15, Try.ntmps15
  go_wp2_with fail
  go_loopw [10, 11, 12] (fun b s i wr => ∃ j : Nat, j ≤ es.length ∧ i = .int .i64 j ∧ b = .int .i64 (leastL (candN es a id k (es.take j))).1 ∧ s = .bool (leastL (candN es a id k (es.take j))).2 ∧ Hid (Below w.heap.size w wr)) (fun _ _ i _ => es.length - (intOf i).toNat)
  case atStart => exact ⟨0, Nat.zero_le _, rfl, rfl, rfl, B0⟩
  case round =>
    clear B0
    obtain ⟨j, hj, rfl, rfl, rfl, HB⟩ := hrel
    by_cases hlt : j < es.length
    · obtain ⟨x, hx⟩ : ∃ x, es[j]? = some x := ⟨es[j]'hlt, List.getElem?_eq_getElem _⟩
      have hst := cand_snoc es a id k (es.take j) x
      rw [← take_snoc es j x hx] at hst
      have HST := Lib.hid hst
      clear hst
      obtain ⟨b, o, rfl, hc⟩ := (HP.out.keep HB.out).at (by omega)
      obtain ⟨d0, d1⟩ := hc j x hx
      clear hc
      have HXX := Lib.hid hx
      clear hx
      generalize leastL (candN es a id k (es.take j)) = st at *
      obtain ⟨bs, ib⟩ := st
      dsimp only
      have hk1 : IntKind.i64.wrap (k - 1) = k - 1 := by rw [IntKind.wrap_i64]; omega
      by_cases h1 : x.1 = a
      · have h1b : (x.1 == a) = true := by simpa using h1
        have HF := Lib.hid (fun w hp => Far_any (some ⟨b, o, none⟩) c es x.2 id w hp hn)
        go_wp2_with fail
        refine (HF.out _ (HP.out.keep HB.out)).mono ?_
        rintro e w2 ⟨rfl, hX⟩
        have HB2 := Lib.hid (HB.out.trans (hX.mono HB.out.size))
        obtain ⟨b2, o2, hA2, hc⟩ := (HP.out.keep HB2.out).at (by omega)
        cases hA2
        obtain ⟨d0, d1⟩ := hc j x HXX.out
        clear hc hX HF
        generalize hq : farR es x.2 id = q at *
        have HQ := Lib.hid hq
        clear hq
        by_cases h2 : q = k - 1
        · have h2b : (q == k - 1) = true := by simpa using h2
          have HC : Hid (x.1 = a ∧ q = k - 1) := Lib.hid ⟨h1, h2⟩
          cases ib with
          | false =>
            have HL : Hid (lstep (bs, false) x.2 = (x.2, true)) := Lib.hid (by unfold lstep; rw [if_pos (Or.inl rfl)])
            clear h1 h2
            go_wp2_with fail
            go_roundw
            case rel => exact ⟨j + 1, by omega, by go_num, by rw [HST.out, if_pos HC.out, HL.out], by rw [HST.out, if_pos HC.out, HL.out], HB2⟩
            case measure => simp [intOf]; omega
          | true =>
            by_cases h3 : x.2 < bs
            · have HL : Hid (lstep (bs, true) x.2 = (x.2, true)) := Lib.hid (by unfold lstep; rw [if_pos (Or.inr h3)])
              clear h1 h2
              go_wp2_with fail
              go_roundw
              case rel => exact ⟨j + 1, by omega, by go_num, by rw [HST.out, if_pos HC.out, HL.out], by rw [HST.out, if_pos HC.out, HL.out], HB2⟩
              case measure => simp [intOf]; omega
            · have HL : Hid (lstep (bs, true) x.2 = (bs, true)) := Lib.hid (by unfold lstep; rw [if_neg (by simpa using h3)])
              clear h1 h2
              go_wp2_with fail
              go_roundw
              case rel => exact ⟨j + 1, by omega, by go_num, by rw [HST.out, if_pos HC.out, HL.out], by rw [HST.out, if_pos HC.out, HL.out], HB2⟩
              case measure => simp [intOf]; omega
        · have h2b : (q == k - 1) = false := by simpa using h2
          have HC : Hid (¬ (x.1 = a ∧ q = k - 1)) := Lib.hid fun h => h2 h.2
          clear h1 h2
          go_wp2_with fail
          go_roundw
          case rel => exact ⟨j + 1, by omega, by go_num, by rw [HST.out, if_neg HC.out], by rw [HST.out, if_neg HC.out], HB2⟩
          case measure => simp [intOf]; omega
      · have h1b : (x.1 == a) = false := by simpa using h1
        have HC : Hid (¬ (x.1 = a ∧ farR es x.2 id = k - 1)) := Lib.hid fun h => h1 h.1
        clear h1
        go_wp2_with fail
        go_roundw
        case rel => exact ⟨j + 1, by omega, by go_num, by rw [HST.out, if_neg HC.out], by rw [HST.out, if_neg HC.out], HB⟩
        case measure => simp [intOf]; omega
    · obtain rfl : j = es.length := by omega
      have hr := HR.out
      rw [List.take_length] at *
      rw [hr]
      clear HR hr
      go_wp2_with fail
      go_returns
      exact ⟨rfl, HB.out⟩
theorem goR_len (es : List Edg) (id : Int) : ∀ (k : Nat) (a : Int), (goR es id k a).length = k
  | 0, _ => rfl
  | k + 1, a => by unfold goR; rw [List.length_cons, goR_len es id k]
set_option maxRecDepth 100000 in
set_option maxHeartbeats 16000000 in
theorem refRound_any (A : Option Addr) (c : Nat) (es : List Edg) (id : Int) (w : World) (hp : Prs w A es) (hn : es.length ≤ 100) :
    Calls Try.prog 8 #[.slice A es.length c, .int .i64 id] w fun e w' => ∃ v, e = .returned v ∧ Aid.Own w No w' (Asn.vec 3 1 v (rndR es id).length (numsK (rndR es id)) * Asn.emp) := by
  have HP := Lib.hid hp
  clear hp
  have HR : Hid (rndG es id es.length 1 = rndR es id) := Lib.hid rfl
  generalize rndR es id = R at *
  have B0 := Lib.hid (Below.refl w.heap.size w)
  go_enter Try.func8, Try.ntmps8
  go_wp2_with fail
  go_loopw [5] (fun nn wr => ∃ m n : Nat, m + n = es.length + 1 ∧ 1 ≤ n ∧ nn = .int .i64 n ∧ Hid (rndG es id m n = R) ∧ Hid (Below w.heap.size w wr)) (fun nn _ => es.length + 2 - (intOf nn).toNat)
  case atStart => exact ⟨es.length, 1, rfl, Nat.le_refl _, rfl, HR, B0⟩
  case round =>
    clear B0 HR
    obtain ⟨m, n, hmn, hn1, rfl, HR, HB⟩ := hrel
    by_cases hlt : n ≤ es.length
    · obtain ⟨m, rfl⟩ : ∃ m', m = m' + 1 := ⟨m - 1, by omega⟩
      have hr := HR.out
      unfold rndG at hr
      have HR := Lib.hid hr
      clear hr
      have HX := Lib.hid (fun w hp => Next_any A c es id id n w hp hn (by omega))
      go_wp2_with fail
      refine (HX.out _ (HP.out.keep HB.out)).mono ?_
      rintro e w2 ⟨rfl, hX⟩
      have HB2 := Lib.hid (HB.out.trans (hX.mono HB.out.size))
      clear hX HX
      generalize nextR es id id n = s at *
      obtain ⟨x, b⟩ := s
      cases b with
      | false =>
        have hr := HR.out
        rw [if_neg (by simp)] at hr
        have HR := Lib.hid hr
        clear hr
        go_wp2_with fail
        go_roundw
        case rel => exact ⟨m, n + 1, by omega, by omega, by go_num, HR, HB2⟩
        case measure => simp [intOf]; omega
      | true =>
        have hr := HR.out
        rw [if_pos rfl] at hr
        have HR := Lib.hid hr
        clear hr
        have S1 := Lib.hid (((Aid.Own.of_below HB2.out).alloc #[.int .i64 id] 3).imp (Imp.l (blk_vec (cs := [.int .i64 id]) 1 1 rfl (by decide))))
        have hw1 : IntKind.i64.wrap ((n : Int) - 1) = (n : Int) - 1 := by rw [IntKind.wrap_i64]; omega
        go_wp2_with fail
        obtain ⟨vo, hvo⟩ : ∃ v, v = Value.slice (some ⟨w2.heap.size, 0, none⟩) 1 1 := ⟨_, rfl⟩
        rw [← hvo] at S1 ⊢
        clear hvo
        generalize w2.alloc _ = w3 at *
        go_loopw [6, 8, 9] (fun at_ v l wr => ∃ (k : Nat) (a : Int) (L : List Int), at_ = .int .i64 a ∧ l = .int .i64 k ∧ L.length + k = n ∧ Hid (L ++ goR es id k a = R) ∧ Hid (Aid.Own w No wr (Asn.vec 3 1 v L.length (numsK L) * Asn.emp))) (fun _ _ l _ => (intOf l).toNat)
        case atStart => exact ⟨n - 1, x, [id], rfl, by congr 1; omega, by simp; omega, HR, S1⟩
        case round =>
          clear S1 HR
          obtain ⟨k, a, L, rfl, rfl, hl, HR, S⟩ := hrel
          rcases k with _ | k
          · have hr := HR.out
            unfold goR at hr
            rw [List.append_nil] at hr
            subst hr
            rw [show ((0 : Nat) : Int) = 0 from rfl]
            clear HR
            go_wp2_with fail
            go_returns
            exact ⟨_, rfl, S.out⟩
          · have hr := HR.out
            unfold goR at hr
            have HR := Lib.hid hr
            clear hr
            have HX := Lib.hid (fun w hp => Next_any A c es a id ((k + 1 : Nat) : Int) w hp hn (by omega))
            obtain ⟨A2, c2, hs2⟩ := S.out.vec.slice
            subst hs2
            have S6 := Lib.hid ((S.out.alloc #[.int .i64 a] 3).re (show _ = Asn.vec 3 1 (.slice A2 L.length c2) L.length (numsK L) * (Asn.blk wr.heap.size 3 #[.int .i64 a] * (Asn.emp)) by ac_rfl))
            have CX : Hid (Src Try.prog 1 26 (.slice (some ⟨wr.heap.size, 0, none⟩) 1 1) 1 [.int .i64 a] (wr.alloc (.cells #[.int .i64 a] 3))) := by
              have hbk := S6.out.has (Has.r (Has.l (has_blk wr.heap.size _ _)))
              exact Lib.hid (Src.ofSlice _ Try.underlying26 ⟨wr.heap.size, 0, none⟩ 1 1 [.int .i64 a] rfl (fun j u hj => by
                rw [Addr.add_lit, Nat.zero_add, hbk.cell]
                simpa using hj) (fun u hu => by rw [List.mem_singleton.1 hu]; rfl))
            clear S
            go_upto_region 11 with (with_reducible refine wpList_append_vec rfl (.tmp 34) (.tmp 36) 26 26 rfl 3 (.int .i64 0) 1 8 Try.underlying26 info_int rfl (by decide) (.slice A2 L.length c2) L.length (numsK L) rfl S6.out.vec (.slice (some ⟨wr.heap.size, 0, none⟩) 1 1) rfl 1 [.int .i64 a] CX.out ?c1p ?c2p ?_)
            case c1p => unfold maxLen; omega
            case c2p => omega
            intro v9 w4 hv hc hf
            have S7 := Lib.hid (S6.out.app hv hc hf)
            rw [← numsK_snoc] at S7
            have S9 := Lib.hid ((S7.out.re (show _ = Asn.blk wr.heap.size 3 #[.int .i64 a] * (Asn.vec 3 1 v9 (L.length + 1) (numsK (L ++ [a])) * (Asn.emp)) by ac_rfl)).right)
            clear S7 hv hc hf S6 CX
            have HBB := Lib.hid S9.out.bel
            go_wp2_with fail
            refine (HX.out _ (HP.out.keep HBB.out)).mono ?_
            rintro e w5 ⟨rfl, hX⟩
            have T := Lib.hid (S9.out.below hX)
            clear hX HX S9
            have hw2 : IntKind.i64.wrap (((k + 1 : Nat) : Int) - 1) = (k : Int) := by rw [IntKind.wrap_i64]; omega
            go_wp2_with fail
            go_roundw
            case rel => exact ⟨k, _, L ++ [a], rfl, by congr 1, by simp; omega, Lib.hid (by rw [← HR.out]; simp), Lib.hid (by rw [List.length_append]; exact T.out)⟩
            case measure => simp [intOf]
    · obtain rfl : m = 0 := by omega
      have hr := HR.out
      unfold rndG at hr
      subst hr
      clear HR
      go_wp2_with fail
      go_returns
      exact ⟨_, rfl, (Aid.Own.of_below HB.out).nilVec 3 1⟩
end Go.Proofs.Ytbcemognghkmcaa.Kt
