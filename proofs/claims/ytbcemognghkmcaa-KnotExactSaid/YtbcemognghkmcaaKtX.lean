/- The document's Far, walked. -/
import Derived.Test.YtbcemognghkmcaaKtW
import Derived.Test.YtbcemognghkmcaaKtP
namespace Go.Proofs.Ytbcemognghkmcaa.Kt
open Go.ChangeShapes Go.WideShapes Go.ChangeAt Go.RowKit Go.PlainAid Aid
set_option linter.unusedVariables false
set_option linter.unusedSimpArgs false
theorem ints_at {w : World} {A : Option Addr} {l : List Int} (h : IntsAt w A l) (hne : 0 < l.length) : ∃ b o, A = some ⟨b, o, none⟩ ∧ ∀ (k : Nat) (x : Int), l[k]? = some x → w.cell? ⟨b, o + k, none⟩ = some (.int .i64 x) := by
  rcases h with rfl | ⟨b, o, hA, hb, hc⟩
  · simp at hne
  · exact ⟨b, o, hA, fun k x hx => hc k x hx⟩
theorem inL_snoc (l : List Int) (x n : Int) : inL (l ++ [x]) n = (inL l n || decide (x = n)) := by unfold inL; rw [List.any_append]; simp
theorem inL_take {l : List Int} {k : Nat} {x n : Int} (hx : l[k]? = some x) : inL (l.take (k + 1)) n = (inL (l.take k) n || decide (x = n)) := by rw [take_snoc l k x hx, inL_snoc]
set_option maxRecDepth 100000 in
set_option maxHeartbeats 4000000 in
theorem in_any (A : Option Addr) (c : Nat) (l : List Int) (n : Int) (w : World) (h : IntsAt w A l) (hn : l.length ≤ 4000000) :
    Calls Try.prog 22 #[.slice A l.length c, .int .i64 n] w fun e w' => e = .returned (.bool (inL l n)) ∧ w' = w := by
  have HA := Lib.hid h
  clear h
  obtain ⟨R, hR⟩ : ∃ R, R = inL l n := ⟨_, rfl⟩
  rw [← hR]
  go_enter Try.func22, Try.ntmps22
  go_wp2_with fail
  go_loopw [5] (fun i wr => ∃ k : Nat, k ≤ l.length ∧ i = .int .i64 k ∧ inL (l.take k) n = false ∧ wr = w) (fun i _ => l.length - (intOf i).toNat)
  case atStart => exact ⟨0, Nat.zero_le _, rfl, rfl, rfl⟩
  case round =>
    obtain ⟨k, hk, rfl, hf, rfl⟩ := hrel
    have HF := Lib.hid hf
    clear hf
    by_cases hlt : k < l.length
    · obtain ⟨x, hx⟩ : ∃ x, l[k]? = some x := ⟨l[k]'hlt, List.getElem?_eq_getElem _⟩
      obtain ⟨b, o, rfl, hc⟩ := ints_at HA.out (by omega)
      have c0 := hc k x hx
      have HX := Lib.hid hx
      clear hc hx
      by_cases he : x = n
      · subst he
        go_wp2_with fail
        go_returns
        refine ⟨?_, rfl⟩
        rw [hR, show inL l x = true from inL_iff.2 (List.mem_of_getElem? HX.out)]
        rfl
      · have heb : (x == n) = false := by simpa using he
        go_wp2_with fail
        go_roundw
        case rel => exact ⟨k + 1, by omega, by go_num, by rw [inL_take HX.out, HF.out]; simpa using he, trivial⟩
        case measure => simp [intOf]; omega
    · obtain rfl : k = l.length := by omega
      have hf := HF.out
      rw [List.take_length] at hf
      rw [hf] at hR
      clear HF hf
      subst hR
      go_wp2_with fail
      go_returns
      exact ⟨rfl, rfl⟩
theorem Asn.swp (A B C : Asn) : A * (B * C) = B * (A * C) := by ac_rfl
theorem layer_len (es : List Edg) (LA LS : List Int) : (layer es LA LS).1.length ≤ LS.length + es.length ∧ (layer es LA LS).2.length ≤ es.length := by
  unfold layer
  rw [← List.reverse_reverse es]
  generalize es.reverse = m
  induction m with
  | nil => exact ⟨Nat.le_refl _, Nat.le_refl _⟩
  | cons x m ih =>
    rw [List.reverse_cons, List.foldl_append, List.length_append]
    generalize m.reverse.foldl (nx LA) (LS, []) = st at *
    show (nx LA st x).1.length ≤ _ ∧ (nx LA st x).2.length ≤ _
    unfold nx
    split
    · simp only [List.length_append, List.length_singleton]; omega
    · simp only [List.length_singleton]; omega
set_option maxRecDepth 100000 in
set_option maxHeartbeats 16000000 in
theorem Far_any (A : Option Addr) (c : Nat) (es : List Edg) (a to_ : Int) (w : World) (hp : Prs w A es) (hn : es.length ≤ 100) :
    Calls Try.prog 18 #[.slice A es.length c, .int .i64 a, .int .i64 to_] w fun e w' => e = .returned (.int .i64 (farR es a to_)) ∧ Below w.heap.size w w' := by
  have HP := Lib.hid hp
  clear hp
  have HR : Hid (farG es to_ (es.length + 1) 0 [a] [a] = farR es a to_) := Lib.hid rfl
  generalize farR es a to_ = R at *
  have S0 := Lib.hid ((((Aid.Own.none w).alloc #[.int .i64 a] 3).imp (Imp.l (blk_vec (cs := [.int .i64 a]) 1 1 rfl (by decide)))).alloc #[.int .i64 a] 3)
  have S1 := Lib.hid (S0.out.imp (Imp.l (blk_vec (cs := [.int .i64 a]) 1 1 rfl (by decide))))
  clear S0
  go_enter Try.func18, Try.ntmps18
  simp only [World.size_alloc] at S1
  go_wp2_with fail
  obtain ⟨g1, hgz⟩ : ∃ g, g = w.heap.size := ⟨_, rfl⟩
  rw [← hgz] at S1 ⊢
  clear hgz
  generalize World.alloc (World.alloc w _) _ = w1 at *
  go_loopw [7, 8, 9] (fun va vs d wr => ∃ (m k : Nat) (LA LS : List Int), m + k = es.length + 1 ∧ d = .int .i64 k ∧ LA.length ≤ 200 ∧ LS.length ≤ 1 + k * 100 ∧ Hid (farG es to_ m k LA LS = R) ∧ Hid (Aid.Own w No wr (Asn.vec 3 1 va LA.length (numsK LA) * (Asn.vec 3 1 vs LS.length (numsK LS) * Asn.emp)))) (fun _ _ d _ => es.length + 2 - (intOf d).toNat)
  case atStart => exact ⟨es.length + 1, 0, [a], [a], by omega, rfl, by simp, by simp, HR, Lib.hid (S1.out.re (by unfold numsK; ac_rfl))⟩
  case round =>
    clear S1 HR
    obtain ⟨m, k, LA, LS, hmk, rfl, hla, hls, HR, S⟩ := hrel
    by_cases hlt : k ≤ es.length
    · obtain ⟨m, rfl⟩ : ∃ m', m = m' + 1 := ⟨m - 1, by omega⟩
      have hr := HR.out
      unfold farG at hr
      have HR := Lib.hid hr
      clear hr
      obtain ⟨A1, c1, hs1⟩ := S.out.vec.slice
      subst hs1
      have S2 := Lib.hid (((S.out.alloc #[] 3).imp (Imp.l (blk_vec (cs := []) 0 1 rfl (by decide)))))
      clear S
      go_wp2_with fail
      obtain ⟨vn, hvn⟩ : ∃ v, v = Value.slice (some ⟨wr.heap.size, 0, none⟩) 0 0 := ⟨_, rfl⟩
      rw [← hvn] at S2 ⊢
      clear hvn
      generalize wr.alloc _ = w2 at *
      have HI : Hid (IntsAt w2 A1 LA) := Lib.hid (IntsAt.of_vec (S2.out.right.vec))
      go_loopw [11] (fun i wx => ∃ k2 : Nat, k2 ≤ LA.length ∧ i = .int .i64 k2 ∧ Hid (inL (LA.take k2) to_ = false) ∧ wx = w2) (fun i _ => LA.length - (intOf i).toNat)
      case atStart => exact ⟨0, Nat.zero_le _, rfl, Lib.hid rfl, rfl⟩
      case round =>
        obtain ⟨k2, hk2, rfl, HF, rfl⟩ := hrel
        by_cases hlt2 : k2 < LA.length
        · obtain ⟨x, hx⟩ : ∃ x, LA[k2]? = some x := ⟨LA[k2]'hlt2, List.getElem?_eq_getElem _⟩
          obtain ⟨b, o, rfl, hc⟩ := ints_at HI.out (by omega)
          have c0 := hc k2 x hx
          have HX := Lib.hid hx
          clear hc hx
          by_cases he : x = to_
          · subst he
            have hr := HR.out
            rw [if_pos (inL_iff.2 (List.mem_of_getElem? HX.out))] at hr
            have HRR := Lib.hid hr
            clear hr
            go_wp2_with fail
            go_returns
            exact ⟨by rw [← HRR.out]; rfl, S2.out.bel⟩
          · have heb : (x == to_) = false := by simpa using he
            go_wp2_with fail
            go_roundw
            case rel => exact ⟨k2 + 1, by omega, by go_num, Lib.hid (by rw [inL_take HX.out, HF.out]; simpa using he), trivial⟩
            case measure => simp [intOf]; omega
        · obtain rfl : k2 = LA.length := by omega
          have hf := HF.out
          rw [List.take_length] at hf
          have hr := HR.out
          rw [if_neg (by rw [hf]; simp)] at hr
          have HR := Lib.hid hr
          clear HF hf hr HI
          have S3 : Hid (Aid.Own w No wr (Asn.vec 3 1 u8 (layer (es.take 0) LA LS).1.length (numsK (layer (es.take 0) LA LS).1) * (Asn.vec 3 1 vn (layer (es.take 0) LA LS).2.length (numsK (layer (es.take 0) LA LS).2) * (Asn.vec 3 1 (.slice A1 LA.length c1) LA.length (numsK LA) * Asn.emp)))) := Lib.hid (S2.out.re (show _ = Asn.vec 3 1 u8 LS.length (numsK LS) * (Asn.vec 3 1 vn 0 [] * (Asn.vec 3 1 (.slice A1 LA.length c1) LA.length (numsK LA) * Asn.emp)) by ac_rfl))
          clear S2
          go_wp2_with fail
          go_loopw [8, 10, 12] (fun vs vm i wx => ∃ j : Nat, j ≤ es.length ∧ i = .int .i64 j ∧ Hid (Aid.Own w No wx (Asn.vec 3 1 vs (layer (es.take j) LA LS).1.length (numsK (layer (es.take j) LA LS).1) * (Asn.vec 3 1 vm (layer (es.take j) LA LS).2.length (numsK (layer (es.take j) LA LS).2) * (Asn.vec 3 1 (.slice A1 LA.length c1) LA.length (numsK LA) * Asn.emp))))) (fun _ _ i _ => es.length - (intOf i).toNat)
          case atStart => exact ⟨0, Nat.zero_le _, rfl, S3⟩
          case round =>
            clear S3
            obtain ⟨j, hj, rfl, S⟩ := hrel
            obtain ⟨hl1, hl2⟩ := layer_len (es.take j) LA LS
            rw [List.length_take] at hl1 hl2
            by_cases hlt3 : j < es.length
            · obtain ⟨x, hx⟩ : ∃ x, es[j]? = some x := ⟨es[j]'hlt3, List.getElem?_eq_getElem _⟩
              have hst : layer (es.take (j + 1)) LA LS = nx LA (layer (es.take j) LA LS) x := by rw [take_snoc es j x hx]; unfold layer; rw [List.foldl_append]; rfl
              have HST := Lib.hid hst
              clear hst
              generalize layer (es.take j) LA LS = st at *
              obtain ⟨LN, LM⟩ := st
              dsimp only at S hl1 hl2
              obtain ⟨A2, c2, hs2⟩ := S.out.vec.slice
              subst hs2
              obtain ⟨A3, c3, hs3⟩ := (S.out.re (Asn.swp _ _ _)).vec.slice
              subst hs3
              obtain ⟨b, o, rfl, hc⟩ := (HP.out.keep S.out.bel).at (by omega)
              obtain ⟨d0, d1⟩ := hc j x hx
              have HIA := Lib.hid (IntsAt.of_vec S.out.right.right.vec)
              have HIS := Lib.hid (IntsAt.of_vec S.out.vec)
              have HXX := Lib.hid hx
              clear hc hx
              cases ha : inL LA x.1 with
              | false =>
                have HN : Hid (nx LA (LN, LM) x = (LN, LM)) := Lib.hid (by unfold nx; rw [if_neg (by rw [ha]; simp)])
                go_wp2_with fail
                refine (in_any A1 c1 LA x.1 wr HIA.out (by omega)).mono ?_
                rintro e w5 ⟨rfl, rfl⟩
                rw [ha]
                go_wp2_with fail
                go_roundw
                case rel => exact ⟨j + 1, by omega, by go_num, Lib.hid (by rw [HST.out, HN.out]; exact S.out)⟩
                case measure => simp [intOf]; omega
              | true =>
                cases hb : inL LN x.2 with
                | true =>
                  have HN : Hid (nx LA (LN, LM) x = (LN, LM)) := Lib.hid (by unfold nx; rw [if_neg (by rw [hb]; simp)])
                  go_wp2_with fail
                  refine (in_any A1 c1 LA x.1 wr HIA.out (by omega)).mono ?_
                  rintro e w5 ⟨rfl, rfl⟩
                  rw [ha]
                  go_wp2_with fail
                  refine (in_any A2 c2 LN x.2 w5 HIS.out (by omega)).mono ?_
                  rintro e w6 ⟨rfl, rfl⟩
                  rw [hb]
                  go_wp2_with fail
                  go_roundw
                  case rel => exact ⟨j + 1, by omega, by go_num, Lib.hid (by rw [HST.out, HN.out]; exact S.out)⟩
                  case measure => simp [intOf]; omega
                | false =>
                  have HN : Hid (nx LA (LN, LM) x = (LN ++ [x.2], LM ++ [x.2])) := Lib.hid (by unfold nx; rw [if_pos ⟨ha, hb⟩])
                  go_wp2_with fail
                  refine (in_any A1 c1 LA x.1 wr HIA.out (by omega)).mono ?_
                  rintro e w5 ⟨rfl, rfl⟩
                  rw [ha]
                  go_wp2_with fail
                  refine (in_any A2 c2 LN x.2 w5 HIS.out (by omega)).mono ?_
                  rintro e w6 ⟨rfl, rfl⟩
                  rw [hb]
                  have S6 := Lib.hid ((S.out.alloc #[.int .i64 x.2] 3).re (show _ = Asn.vec 3 1 (.slice A2 LN.length c2) LN.length (numsK LN) * (Asn.blk w6.heap.size 3 #[.int .i64 x.2] * (Asn.vec 3 1 (.slice A3 LM.length c3) LM.length (numsK LM) * (Asn.vec 3 1 (.slice A1 LA.length c1) LA.length (numsK LA) * Asn.emp))) by ac_rfl))
                  have CX : Hid (Src Try.prog 1 26 (.slice (some ⟨w6.heap.size, 0, none⟩) 1 1) 1 [.int .i64 x.2] (w6.alloc (.cells #[.int .i64 x.2] 3))) := by
                    have hbk := S6.out.has (Has.r (Has.l (has_blk w6.heap.size _ _)))
                    exact Lib.hid (Src.ofSlice _ Try.underlying26 ⟨w6.heap.size, 0, none⟩ 1 1 [.int .i64 x.2] rfl (fun j u hj => by
                      rw [Addr.add_lit, Nat.zero_add, hbk.cell]
                      simpa using hj) (fun u hu => by rw [List.mem_singleton.1 hu]; rfl))
                  clear S
                  go_upto_region 17 with (with_reducible refine wpList_append_vec rfl (.tmp 60) (.tmp 66) 26 26 rfl 3 (.int .i64 0) 1 8 Try.underlying26 info_int rfl (by decide) (.slice A2 LN.length c2) LN.length (numsK LN) rfl S6.out.vec (.slice (some ⟨w6.heap.size, 0, none⟩) 1 1) rfl 1 [.int .i64 x.2] CX.out ?c1p ?c2p ?_)
                  case c1p => unfold maxLen; omega
                  case c2p => omega
                  intro v8 w7 hv hc hf
                  have S7 := Lib.hid (S6.out.app hv hc hf)
                  rw [← numsK_snoc] at S7
                  have S8 := Lib.hid ((S7.out.re (show _ = Asn.blk w6.heap.size 3 #[.int .i64 x.2] * (Asn.vec 3 1 v8 (LN.length + 1) (numsK (LN ++ [x.2])) * (Asn.vec 3 1 (.slice A3 LM.length c3) LM.length (numsK LM) * (Asn.vec 3 1 (.slice A1 LA.length c1) LA.length (numsK LA) * Asn.emp))) by ac_rfl)).right)
                  clear S7 hv hc hf S6 CX
                  clear d0 d1
                  obtain ⟨A4, c4, hs4⟩ := S8.out.vec.slice
                  subst hs4
                  have S8 := Lib.hid (S8.out.re (Asn.swp _ _ _))
                  obtain ⟨b2, o2, hA2, hc⟩ := (HP.out.keep S8.out.bel).at (by omega)
                  cases hA2
                  obtain ⟨d0, d1⟩ := hc j x HXX.out
                  clear hc
                  have S6 := Lib.hid ((S8.out.alloc #[.int .i64 x.2] 3).re (show _ = Asn.vec 3 1 (.slice A3 LM.length c3) LM.length (numsK LM) * (Asn.blk w7.heap.size 3 #[.int .i64 x.2] * (Asn.vec 3 1 (.slice A4 (LN.length + 1) c4) (LN.length + 1) (numsK (LN ++ [x.2])) * (Asn.vec 3 1 (.slice A1 LA.length c1) LA.length (numsK LA) * Asn.emp))) by ac_rfl))
                  have CX : Hid (Src Try.prog 1 26 (.slice (some ⟨w7.heap.size, 0, none⟩) 1 1) 1 [.int .i64 x.2] (w7.alloc (.cells #[.int .i64 x.2] 3))) := by
                    have hbk := S6.out.has (Has.r (Has.l (has_blk w7.heap.size _ _)))
                    exact Lib.hid (Src.ofSlice _ Try.underlying26 ⟨w7.heap.size, 0, none⟩ 1 1 [.int .i64 x.2] rfl (fun j u hj => by
                      rw [Addr.add_lit, Nat.zero_add, hbk.cell]
                      simpa using hj) (fun u hu => by rw [List.mem_singleton.1 hu]; rfl))
                  clear S8
                  go_wp2_with (with_reducible refine wpList_append_vec rfl (.tmp 68) (.tmp 74) 26 26 rfl 3 (.int .i64 0) 1 8 Try.underlying26 info_int rfl (by decide) (.slice A3 LM.length c3) LM.length (numsK LM) rfl S6.out.vec (.slice (some ⟨w7.heap.size, 0, none⟩) 1 1) rfl 1 [.int .i64 x.2] CX.out ?c1q ?c2q ?_)
                  case c1q => unfold maxLen; omega
                  case c2q => omega
                  intro v9 w8 hv hc hf
                  have S7 := Lib.hid (S6.out.app hv hc hf)
                  rw [← numsK_snoc] at S7
                  have S9 := Lib.hid ((S7.out.re (show _ = Asn.blk w7.heap.size 3 #[.int .i64 x.2] * (Asn.vec 3 1 v9 (LM.length + 1) (numsK (LM ++ [x.2])) * (Asn.vec 3 1 (.slice A4 (LN.length + 1) c4) (LN.length + 1) (numsK (LN ++ [x.2])) * (Asn.vec 3 1 (.slice A1 LA.length c1) LA.length (numsK LA) * Asn.emp))) by ac_rfl)).right)
                  clear S7 hv hc hf S6 CX
                  go_wp2_with fail
                  go_roundw
                  case rel => exact ⟨j + 1, by omega, by go_num, Lib.hid (by rw [HST.out, HN.out]; dsimp only; rw [List.length_append, List.length_append]; exact S9.out.re (Asn.swp _ _ _))⟩
                  case measure => simp [intOf]; omega
            · obtain rfl : j = es.length := by omega
              rw [List.take_length] at S hl1 hl2
              have S4 := Lib.hid ((S.out.re (show _ = Asn.vec 3 1 (.slice A1 LA.length c1) LA.length (numsK LA) * (Asn.vec 3 1 u10 (layer es LA LS).2.length (numsK (layer es LA LS).2) * (Asn.vec 3 1 u8 (layer es LA LS).1.length (numsK (layer es LA LS).1) * Asn.emp)) by ac_rfl)).right)
              clear S
              generalize (layer es LA LS).2 = NA, (layer es LA LS).1 = NS at *
              go_wp2_with fail
              go_roundw
              case rel => exact ⟨m, k + 1, NA, NS, by omega, by go_num, by omega, by omega, HR, S4⟩
              case measure => simp [intOf]; omega
    · obtain rfl : m = 0 := by omega
      have hr := HR.out
      unfold farG at hr
      subst hr
      clear HR
      have SB := Lib.hid S.out.bel
      clear S
      go_wp2_with fail
      go_returns
      exact ⟨rfl, SB.out⟩
end Go.Proofs.Ytbcemognghkmcaa.Kt
