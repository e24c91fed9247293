/- Round. -/
import Derived.Test.YtbcemognghkmcaaKtE
namespace Go.Proofs.Ytbcemognghkmcaa.Kt
open Go.ChangeShapes Go.WideShapes Go.ChangeAt Go.RowKit Go.PlainAid Aid
set_option linter.unusedVariables false
set_option linter.unusedSimpArgs false
/-- All that are named, and one. -/
def nsE (id : Int) (es : List Edg) : List Int := id :: (es.map (·.1) ++ es.map (·.2))
theorem nsE_len (id : Int) (es : List Edg) : (nsE id es).length = 2 * es.length + 1 := by unfold nsE; simp; omega
theorem mem_toL {es : List Edg} {a b : Int} : b ∈ toL es a ↔ (a, b) ∈ es := by
  unfold toL
  rw [List.mem_map]
  constructor
  · rintro ⟨e, he, rfl⟩
    obtain ⟨h1, h2⟩ := List.mem_filter.1 he
    have : e.1 = a := by simpa using h2
    rw [← this]; exact h1
  · intro h
    exact ⟨(a, b), List.mem_filter.2 ⟨h, by simp⟩, rfl⟩
theorem mem_swp {es : List Edg} {a b : Int} : b ∈ toL (es.map swp) a ↔ (b, a) ∈ es := by
  rw [mem_toL, List.mem_map]
  constructor
  · rintro ⟨e, he, h⟩
    obtain ⟨x, y⟩ := e
    unfold swp at h
    cases h
    exact he
  · intro h
    exact ⟨(b, a), h, rfl⟩
theorem nsE_mem {id : Int} {es : List Edg} {a b : Int} (h : (a, b) ∈ es) : a ∈ nsE id es ∧ b ∈ nsE id es :=
  ⟨List.mem_cons_of_mem _ (List.mem_append_left _ (List.mem_map.2 ⟨(a, b), h, rfl⟩)), List.mem_cons_of_mem _ (List.mem_append_right _ (List.mem_map.2 ⟨(a, b), h, rfl⟩))⟩
theorem nsE_64 {id : Int} {es : List Edg} (hid : I64w id) (hw : Wf es) : ∀ a, a ∈ nsE id es → I64w a := by
  intro a ha
  unfold nsE at ha
  rcases List.mem_cons.1 ha with rfl | ha
  · exact hid
  · rcases List.mem_append.1 ha with ha | ha
    · obtain ⟨e, he, rfl⟩ := List.mem_map.1 ha
      exact (hw e he).1
    · obtain ⟨e, he, rfl⟩ := List.mem_map.1 ha
      exact (hw e he).2
def farE (es : List Edg) (id : Int) : Fe := fbfs (toL (es.map swp)) (nsE id es).length [(id, 0)] [id]
def rndL (es : List Edg) (id : Int) : List Int := rndF (toL es) (farE es id) id (nsE id es).length
theorem farE_ok (es : List Edg) (id : Int) : Par (toL (es.map swp)) id (farE es id) ∧ ∃ q, FOk (nsE id es) (farE es id) q :=
  far_ok _ _ _ List.mem_cons_self (fun a b h => (nsE_mem (mem_swp.1 h)).1) _
theorem farE_next (es : List Edg) (id a : Int) (ha : hasF (farE es id) a = true) (hne : a ≠ id) : (nearL (farE es id) (toL es a)).2 = true ∧ (nearL (farE es id) (toL es a)).1 ∈ toL es a ∧ hasF (farE es id) (nearL (farE es id) (toL es a)).1 = true ∧ dF (farE es id) (nearL (farE es id) (toL es a)).1 < dF (farE es id) a :=
  next_near (farE_ok es id).1 (fun r a h => mem_toL.2 (mem_swp.1 h)) ha hne
theorem farE_le (es : List Edg) (id a : Int) (ha : hasF (farE es id) a = true) : 0 ≤ dF (farE es id) a ∧ dF (farE es id) a < ((nsE id es).length : Nat) := by
  obtain ⟨q, hq⟩ := (farE_ok es id).2
  have := dF_lt2 hq a ha
  have := hq.len
  have := (dF_lt hq a).1
  omega
set_option maxRecDepth 100000 in
set_option maxHeartbeats 16000000 in
theorem Round_any (A : Option Addr) (c : Nat) (es : List Edg) (id : Int) (w0 w : World) (C : Asn) (hS : Aid.Own w0 No w C) (hP : ∀ W X, Aid.Own w0 No W (X * C) → Prs W A es) (hn : es.length ≤ 900) (hw : Wf es) (hid : I64w id) :
    Calls Try.prog 6 #[.slice A es.length c, .int .i64 id] w fun e w' => ∃ v, e = .returned v ∧ Aid.Own w0 No w' (Asn.vec 3 1 v (rndL es id).length (numsK (rndL es id)) * C) := by
  have HP := Lib.hid hP
  have HW := Lib.hid hw
  have HS := Lib.hid hS
  have HID := Lib.hid hid
  obtain ⟨R, hR⟩ : ∃ R, R = rndL es id := ⟨_, rfl⟩
  rw [← hR]
  have HR0 := Lib.hid hR
  clear hP hw hS hid hR
  go_enter Try.func6, Try.ntmps6
  go_wp2_with fail
  refine (forth_any A c es w0 w C HS.out HP.out (by omega) HW.out).mono ?_
  rintro e w1 ⟨g, G, rfl, hGl, hG, S1⟩
  have HG := Lib.hid hG
  have S1 := Lib.hid S1
  clear hG HS
  go_wp2_with fail
  refine (back_any A c es w0 w1 (aGm g G * C) S1.out (fun W X h => HP.out W (X * aGm g G) (h.re (show _ = (X * aGm g G) * C by ac_rfl))) (by omega) HW.out).mono ?_
  rintro e w2 ⟨g2, G2, rfl, hGl2, hG2, S2⟩
  have hNS : ∀ a b, b ∈ gl G2 a → b ∈ nsE id es := fun a b h => by rw [hG2] at h; exact (nsE_mem (mem_swp.1 h)).1
  have hl2 : ∀ a, (gl G2 a).length ≤ 1000 := fun a => by
    rw [hG2]
    have := toL_len (es.map swp) a
    rw [List.length_map] at this
    omega
  have eG2 : gl G2 = toL (es.map swp) := funext hG2
  have HGG := Lib.hid eG2
  have S2 := Lib.hid S2
  have HNS := Lib.hid hNS
  have HL2 := Lib.hid hl2
  clear S1 hG2 eG2 hNS hl2
  go_wp2_with fail
  refine (far_any g2 G2 (nsE id es) id w0 w2 (aGm g G * C) S2.out HID.out HNS.out List.mem_cons_self (nsE_64 HID.out HW.out) (by rw [nsE_len]; omega) HL2.out).mono ?_
  rintro e w3 ⟨f, rfl, S3⟩
  rw [HGG.out] at S3
  have S4 := (S3.re (show _ = aGm g2 G2 * (aMap Try.prog 3 f (iE (farE es id)) * (aGm g G * C)) by unfold farE; ac_rfl)).right
  have S4 := Lib.hid S4
  clear S3 S2 HGG HNS HL2
  obtain ⟨F, hF⟩ : ∃ F, F = farE es id := ⟨_, rfl⟩
  rw [← hF] at S4
  have HF := Lib.hid hF
  clear hF
  have SR := gm_row id (S4.out.re (show _ = aGm g G * (aMap Try.prog 3 f (iE F) * C) by ac_rfl))
  obtain ⟨A1, c1, hvs⟩ := SR.vec.slice
  have hlk := look_gm (k := gm_is (S4.out.re (show _ = aGm g G * (aMap Try.prog 3 f (iE F) * C) by ac_rfl))) id HID.out
  rw [hvs] at SR hlk
  have HV := Lib.hid SR.vec
  have eg : gl G id = toL es id := HG.out id
  rw [eg] at HV hlk
  clear SR hvs eg
  go_wp2_with fail
  clear hlk
  refine (nearest_any A1 c1 (toL es id) f F w3 HV.out (S4.out.kn (At.l (at_map _ _ _ _))) (fun a ha => nsE_64 HID.out HW.out a (nsE_mem (mem_toL.1 ha)).2) (Nat.le_trans (toL_len es id) (by omega))).mono ?_
  rintro e w4 ⟨rfl, hw4⟩
  rw [hw4]
  clear hw4 w4 HV
  cases h2 : (nearL F (toL es id)).2 with
  | false =>
    have hr : rndL es id = [] := by
      unfold rndL rndF
      rw [← HF.out, h2]
      rfl
    go_wp2_with fail
    go_returns
    rw [HR0.out.trans hr]
    exact ⟨_, rfl, S4.out.right.right.nilVec 3 1⟩
  | true =>
    have hr : rndL es id = id :: rgo (toL es) F id (nsE id es).length (nearL F (toL es id)).1 := by
      unfold rndL rndF
      rw [← HF.out, h2]
      rfl
    have HR := Lib.hid (HR0.out.trans hr)
    clear hr HR0
    have hx0 : hasF F (nearL F (toL es id)).1 = true := by
      rcases nearL_mem F (toL es id) with e | ⟨-, -, h⟩
      · rw [e] at h2; cases h2
      · exact h
    have HX0 := Lib.hid hx0
    have hd0 : dF F (nearL F (toL es id)).1 ≤ ((nsE id es).length : Nat) := by
      have hh := hx0
      rw [HF.out] at hh ⊢
      have := (farE_le es id _ hh).2
      omega
    have HD0 := Lib.hid hd0
    clear hx0 hd0
    obtain ⟨x0, hx0⟩ : ∃ x, x = (nearL F (toL es id)).1 := ⟨_, rfl⟩
    rw [← hx0] at HR HX0 HD0
    have S5 := Lib.hid (((S4.out.alloc #[.int .i64 id] 3).imp (Imp.l (blk_vec (cs := [.int .i64 id]) 1 1 rfl (by simp [maxLen])))))
    have HLE : Hid (∀ a, hasF F a = true → a ≠ id → (nearL F (toL es a)).1 ∈ toL es a ∧ hasF F (nearL F (toL es a)).1 = true ∧ dF F (nearL F (toL es a)).1 < dF F a ∧ 0 ≤ dF F (nearL F (toL es a)).1 ∧ I64w a) := Lib.hid (by
      intro a ha hne
      rw [HF.out] at ha ⊢
      have h := farE_next es id a ha hne
      refine ⟨h.2.1, h.2.2.1, h.2.2.2, (farE_le es id _ h.2.2.1).1, ?_⟩
      exact nsE_64 HID.out HW.out a (nsE_mem (mem_toL.1 h.2.1)).1)
    go_wp2_with fail
    rw [← hx0]
    clear hx0 S4 h2 HF
    generalize w3.alloc _ = w4 at *
    obtain ⟨N, hN⟩ : ∃ N, N = (nsE id es).length := ⟨_, rfl⟩
    have hNL : N ≤ 1801 := by rw [hN, nsE_len]; omega
    rw [← hN] at HR HD0
    clear hN
    go_loopw [7, 9] (fun a row wr => ∃ (n : Nat) (L : List Int) (x : Int), a = .int .i64 x ∧ Hid (R = L ++ rgo (toL es) F id n x) ∧ Hid (hasF F x = true) ∧ Hid (dF F x ≤ (n : Int)) ∧ L.length + n ≤ N + 1 ∧ Hid (Aid.Own w0 No wr (Asn.vec 3 1 row L.length (numsK L) * (aMap Try.prog 3 f (iE F) * (aGm g G * C))))) (fun a _ _ => (dF F (intOf a)).toNat)
    case atStart => exact ⟨N, [id], x0, rfl, HR, HX0, HD0, by simp; omega, S5⟩
    case round =>
      clear S5 HR HX0 HD0
      obtain ⟨n, L, x, rfl, HR, HX, HD, hL, S⟩ := hrel
      obtain ⟨A5, c5, he⟩ := S.out.vec.slice
      subst he
      by_cases hx : x = id
      · subst hx
        have hr := HR.out
        rw [rgo_id, List.append_nil] at hr
        subst hr
        go_wp2_with fail
        go_returns
        exact ⟨_, rfl, (S.out.re (show _ = (aMap Try.prog 3 f (iE F) * aGm g G) * (Asn.vec 3 1 (.slice A5 R.length c5) R.length (numsK R) * C) by ac_rfl)).right⟩
      · have hxb : (x == id) = false := by simpa using hx
        obtain ⟨h5, h6, h7, h8, h9⟩ := HLE.out x HX.out hx
        have hd := HD.out
        obtain ⟨n, rfl⟩ : ∃ n', n = n' + 1 := ⟨n - 1, by omega⟩
        have hnl : (numsK L).length = L.length := by simp [numsK]
        have S6 := Lib.hid ((S.out.alloc #[.int .i64 x] 3).re (show _ = Asn.vec 3 1 (.slice A5 L.length c5) L.length (numsK L) * (Asn.blk wr.heap.size 3 #[.int .i64 x] * (aMap Try.prog 3 f (iE F) * (aGm g G * C))) by ac_rfl))
        have CX : Hid (Src Try.prog 1 26 (.slice (some ⟨wr.heap.size, 0, none⟩) 1 1) 1 [.int .i64 x] (wr.alloc (.cells #[.int .i64 x] 3))) := by
          have hbk := S6.out.has (Has.r (Has.l (has_blk wr.heap.size _ _)))
          exact Lib.hid (Src.ofSlice _ Try.underlying26 ⟨wr.heap.size, 0, none⟩ 1 1 [.int .i64 x] rfl (fun j u hj => by
            rw [Addr.add_lit, Nat.zero_add, hbk.cell]
            simpa using hj) (fun u hu => by rw [List.mem_singleton.1 hu]; rfl))
        clear S
        go_upto_region 8 with (with_reducible refine wpList_append_vec rfl (.tmp 31) (.tmp 33) 26 26 rfl 3 (.int .i64 0) 1 8 Try.underlying26 info_int rfl (by decide) (.slice A5 L.length c5) L.length (numsK L) rfl S6.out.vec (.slice (some ⟨wr.heap.size, 0, none⟩) 1 1) rfl 1 [.int .i64 x] CX.out ?c1 ?c2 ?_)
        case c1 => unfold maxLen; omega
        case c2 => omega
        intro v' w5 hv hc hf
        have S7 := Lib.hid (S6.out.app hv hc hf)
        obtain ⟨A6, c6, he6⟩ := hv.slice
        subst he6
        clear hv hc hf S6 CX
        have hnx : numsK L ++ [.int .i64 x] = numsK (L ++ [x]) := (numsK_snoc _ _).symm
        rw [hnx] at S7
        have S8 := Lib.hid ((S7.out.re (show _ = Asn.blk wr.heap.size 3 #[.int .i64 x] * (aGm g G * (aMap Try.prog 3 f (iE F) * (Asn.vec 3 1 (.slice A6 (L.length + 1) c6) (L.length + 1) (numsK (L ++ [x])) * C))) by ac_rfl)).right)
        clear S7 hnx
        have SR := gm_row x S8.out
        obtain ⟨A2, c2, hvs⟩ := SR.vec.slice
        have hlk := look_gm (k := gm_is S8.out) x h9
        rw [hvs] at SR hlk
        have HV := Lib.hid SR.vec
        have eg : gl G x = toL es x := HG.out x
        rw [eg] at HV hlk
        clear SR hvs eg
        go_wp2_with fail
        clear hlk
        refine (nearest_any A2 c2 (toL es x) f F w5 HV.out (S8.out.right.kn (At.l (at_map _ _ _ _))) (fun a ha => nsE_64 HID.out HW.out a (nsE_mem (mem_toL.1 ha)).2) (Nat.le_trans (toL_len es x) (by omega))).mono ?_
        rintro e w6 ⟨rfl, hw6⟩
        rw [hw6]
        clear hw6 w6 HV
        go_wp2_with fail
        go_roundw
        case rel =>
          refine ⟨n, L ++ [x], (nearL F (toL es x)).1, rfl, Lib.hid ?_, Lib.hid h6, Lib.hid (by omega), by simp; omega, ?_⟩
          · rw [HR.out]
            show L ++ (if x = id then [] else x :: rgo (toL es) F id n (nearL F (toL es x)).1) = _
            rw [if_neg hx, List.append_assoc]
            rfl
          · rw [show (L ++ [x]).length = L.length + 1 by simp]
            exact Lib.hid (S8.out.re (show _ = Asn.vec 3 1 (.slice A6 (L.length + 1) c6) (L.length + 1) (numsK (L ++ [x])) * (aMap Try.prog 3 f (iE F) * (aGm g G * C)) by ac_rfl))
        case measure => simp [intOf]; omega
end Go.Proofs.Ytbcemognghkmcaa.Kt
