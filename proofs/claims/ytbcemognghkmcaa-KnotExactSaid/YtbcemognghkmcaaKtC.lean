/- How far each one is from one. -/
import Derived.Test.YtbcemognghkmcaaKtB
import Derived.Test.YtbcemognghkmcaaQue

namespace Go.Proofs.Ytbcemognghkmcaa.Kt
open Go.ChangeShapes Go.WideShapes Go.ChangeAt Go.RowKit Go.PlainAid Aid
set_option linter.unusedVariables false
set_option linter.unusedSimpArgs false
/-! Numbers by numbers. -/
abbrev Fe := List (Int × Int)
def iE (F : Fe) : List En := F.map fun p => (.int .i64 p.1, .int .i64 p.2)
def fnd (F : Fe) (a : Int) : Option (Int × Int) := F.find? fun p => decide (p.1 = a)
def dF (F : Fe) (a : Int) : Int := match fnd F a with
  | some p => p.2
  | none => 0
def hasF (F : Fe) (a : Int) : Bool := (fnd F a).isSome
theorem find_iE (F : Fe) (a : Int) : (iE F).find? (fun p => p.1.sameKey (.int .i64 a)) = (fnd F a).map fun p => ((.int .i64 p.1, .int .i64 p.2) : En) := by
  unfold iE fnd
  rw [List.find?_map]
  have e : ((fun p : En => p.1.sameKey (.int .i64 a)) ∘ fun x : Int × Int => ((.int .i64 x.1, .int .i64 x.2) : En)) = fun x => decide (x.1 = a) := by
    funext x
    exact same_int _ _
  rw [e]
theorem at_iE (F : Fe) (a : Int) : atE (iE F) (.int .i64 a) (.int .i64 0) = .int .i64 (dF F a) := by
  unfold atE dF
  rw [find_iE]
  cases fnd F a <;> rfl
theorem has_iE (F : Fe) (a : Int) : hasE (iE F) (.int .i64 a) = hasF F a := by
  unfold hasE hasF
  rw [find_iE]
  cases fnd F a <;> rfl
theorem off_iE {F : Fe} {a : Int} (h : hasF F a = false) : off (.int .i64 a) (iE F) = iE F := by
  unfold off
  refine List.filter_eq_self.2 fun p hp => ?_
  obtain ⟨x, hx, rfl⟩ := List.mem_map.1 hp
  have h2 : fnd F a = none := by unfold hasF at h; cases hf : fnd F a with | none => rfl | some y => rw [hf] at h; cases h
  have := List.find?_eq_none.1 h2 x hx
  rw [same_int]
  simpa using this
theorem zero_int (w : World) : (zeroValue 3).run Try.prog w = .ok (.int .i64 0) w := by kernel_rfl
section
variable {w : World} {f : Nat} {F : Fe}
theorem look_f (k : MapIs w Try.prog 3 f (iE F)) (a : Int) (ha : I64w a) : (Instr.lookup 40 (.map (some f)) (.int .i64 a) false).run Try.prog w = .ok (.int .i64 (dF F a)) w := by
  have := k.look kI Try.underlying40 (zero_int w) false (key_int a ha)
  rw [at_iE] at this
  exact this
theorem look_f2 (k : MapIs w Try.prog 3 f (iE F)) (a : Int) (ha : I64w a) : (Instr.lookup 40 (.map (some f)) (.int .i64 a) true).run Try.prog w = .ok (.tuple #[.int .i64 (dF F a), .bool (hasF F a)]) w := by
  have := k.look kI Try.underlying40 (zero_int w) true (key_int a ha)
  rw [at_iE, has_iE] at this
  exact this
end
/-! Going out from one. -/
def fstep (r : Int) (st : Fe × List Int) (tt : Int) : Fe × List Int := if hasF st.1 tt then st else ((tt, dF st.1 r + 1) :: st.1, st.2 ++ [tt])
def fin (r : Int) (tos : List Int) (st : Fe × List Int) : Fe × List Int := tos.foldl (fstep r) st
def fbfs (l : Int → List Int) : Nat → Fe → List Int → Fe
  | 0, F, _ => F
  | n + 1, F, q => match q with
    | [] => F
    | r :: q => fbfs l n (fin r (l r) (F, r :: q)).1 (fin r (l r) (F, r :: q)).2.tail
/-- What stays so, all along. -/
structure FOk (NS : List Int) (F : Fe) (q : List Int) : Prop where
  nd : (F.map Prod.fst).Nodup
  ns : ∀ p, p ∈ F → p.1 ∈ NS
  ds : ∀ p, p ∈ F → 0 ≤ p.2 ∧ p.2 < (F.length : Nat)
  qf : ∀ a, a ∈ q → hasF F a = true
theorem nodup_le {l m : List Int} (hn : l.Nodup) (hs : ∀ a, a ∈ l → a ∈ m) : l.length ≤ m.length := by
  induction l generalizing m with
  | nil => exact Nat.zero_le _
  | cons a l ih =>
    obtain ⟨h1, h2⟩ := List.nodup_cons.1 hn
    have ha := hs a List.mem_cons_self
    have := ih (m := m.erase a) h2 (fun b hb => (List.mem_erase_of_ne (fun e => h1 (by rw [← e]; exact hb))).2 (hs b (List.mem_cons_of_mem _ hb)))
    rw [List.length_erase_of_mem ha] at this
    have hp := List.length_pos_of_mem ha
    rw [List.length_cons]
    omega
theorem FOk.len {NS : List Int} {F : Fe} {q : List Int} (h : FOk NS F q) : F.length ≤ NS.length := by
  have := nodup_le (l := F.map Prod.fst) (m := NS) h.nd (fun a ha => by
    obtain ⟨p, hp, rfl⟩ := List.mem_map.1 ha
    exact h.ns p hp)
  rwa [List.length_map] at this
theorem hasF_mem {F : Fe} {a : Int} : hasF F a = true ↔ a ∈ F.map Prod.fst := by
  unfold hasF fnd
  rw [List.find?_isSome, List.mem_map]
  constructor
  · rintro ⟨p, hp, h⟩
    exact ⟨p, hp, by simpa using h⟩
  · rintro ⟨p, hp, rfl⟩
    exact ⟨p, hp, by simp⟩
theorem dF_lt {NS : List Int} {F : Fe} {q : List Int} (h : FOk NS F q) (a : Int) : 0 ≤ dF F a ∧ dF F a ≤ (F.length : Nat) := by
  unfold dF
  cases hf : fnd F a with
  | none => exact ⟨Int.le_refl _, by simp⟩
  | some p =>
    have := h.ds p (find_key (fun p : Int × Int => p.1) F a p hf).1
    exact ⟨this.1, by have := this.2; simp only; omega⟩
theorem dF_lt2 {NS : List Int} {F : Fe} {q : List Int} (h : FOk NS F q) (a : Int) (ha : hasF F a = true) : dF F a < (F.length : Nat) := by
  unfold dF
  unfold hasF at ha
  cases hf : fnd F a with
  | none => rw [hf] at ha; cases ha
  | some p => exact (h.ds p (find_key (fun p : Int × Int => p.1) F a p hf).1).2
theorem FOk.step {NS : List Int} {F : Fe} {q : List Int} {r tt : Int} (h : FOk NS F q) (hr : r ∈ q) (ht : tt ∈ NS) : FOk NS (fstep r (F, q) tt).1 (fstep r (F, q) tt).2 := by
  unfold fstep
  cases hh : hasF F tt with
  | true => exact h
  | false =>
    have hr2 := h.qf r hr
    rw [if_neg (by simp [hh])]
    refine ⟨?_, fun p hp => ?_, fun p hp => ?_, fun a ha => ?_⟩
    · show ((tt :: F.map Prod.fst)).Nodup
      refine List.nodup_cons.2 ⟨fun hc => ?_, h.nd⟩
      rw [hasF_mem.2 hc] at hh; cases hh
    · rcases List.mem_cons.1 hp with rfl | hp
      · exact ht
      · exact h.ns p hp
    · show _ ∧ _ < ((F.length + 1 : Nat) : Int)
      rcases List.mem_cons.1 hp with rfl | hp
      · have h1 := dF_lt h r
        have h2 := dF_lt2 h r hr2
        exact ⟨by show (0 : Int) ≤ dF F r + 1; omega, by show dF F r + 1 < _; omega⟩
      · have := h.ds p hp
        exact ⟨this.1, by omega⟩
    · show hasF ((tt, dF F r + 1) :: F) a = true
      rw [hasF_mem]
      show a ∈ tt :: F.map Prod.fst
      rcases List.mem_append.1 ha with ha | ha
      · exact List.mem_cons_of_mem _ (hasF_mem.1 (h.qf a ha))
      · rw [List.mem_singleton.1 ha]; exact List.mem_cons_self
theorem fstep_head (r : Int) (F : Fe) (q : List Int) (tt : Int) : ∃ q', (fstep r (F, r :: q) tt).2 = r :: q' := by
  unfold fstep
  split
  · exact ⟨q, rfl⟩
  · exact ⟨q ++ [tt], rfl⟩
theorem fin_snoc (r : Int) (tos : List Int) (tt : Int) (st : Fe × List Int) : fin r (tos ++ [tt]) st = fstep r (fin r tos st) tt := by
  unfold fin
  rw [List.foldl_append]
  rfl
theorem fstep_pot (r : Int) (st : Fe × List Int) (tt : Int) : (fstep r st tt).2.length + st.1.length = st.2.length + (fstep r st tt).1.length := by
  unfold fstep
  split
  · rfl
  · simp; omega
/-- How many entries a map has. -/
def mapN (w : World) (f : Nat) : Nat := match w.heap[f]? with
  | some (.map es _) => es.size
  | _ => 0
theorem mapN_is {w : World} {P : Program} {k : TypeId} {f : Nat} {E : List En} (h : MapIs w P k f E) : mapN w f = E.length := by
  obtain ⟨es, clock, hb, F, hE⟩ := h
  unfold mapN
  rw [hb]
  have := hE.length_eq
  simp [heldE] at this
  exact this
def lenS (v : Value) : Nat := match v with | .slice _ n _ => n | _ => 0
def pot (NS : List Int) (F : Fe) (q : List Int) : Nat := NS.length - F.length + q.length
set_option maxRecDepth 100000 in
set_option maxHeartbeats 16000000 in
theorem far_any (g : Nat) (G : List Gp) (NS : List Int) (id : Int) (w0 w : World) (C : Asn) (hS : Aid.Own w0 No w (aGm g G * C)) (hid : I64w id) (hNS : ∀ a b, b ∈ gl G a → b ∈ NS) (hidN : id ∈ NS) (hw : ∀ a, a ∈ NS → I64w a) (hn : NS.length ≤ 2000) (hl : ∀ a, (gl G a).length ≤ 1000) :
    Calls Try.prog 13 #[.map (some g), .int .i64 id] w fun e w' => ∃ f, e = .returned (.map (some f)) ∧ Aid.Own w0 No w' (aMap Try.prog 3 f (iE (fbfs (gl G) NS.length [(id, 0)] [id])) * (aGm g G * C)) := by
  have HNS := Lib.hid hNS
  have HWF := Lib.hid hw
  have HL := Lib.hid hl
  have HN := Lib.hid hn
  have hmm := @run_makeMap Try.prog
  have S0 := hS.mapNew Try.prog 3
  obtain ⟨w2, hst, hm2, hc2⟩ := (S0.kn (At.l (at_map _ _ _ _))).store kI Try.underlying40 (by simp [maxLen]) (key_int id hid) (val := .int .i64 0)
  have S1 := S0.mapTo hc2 hm2
  have e0 : ((Lit.int .i64 id, Value.int .i64 0) : En) :: off (.int .i64 id) [] = iE [(id, 0)] := rfl
  rw [e0] at S1
  have hok0 : FOk NS [(id, 0)] [id] := ⟨by simp, fun p hp => by rw [List.mem_singleton.1 hp]; exact hidN, fun p hp => by rw [List.mem_singleton.1 hp]; simp, fun a ha => by rw [List.mem_singleton.1 ha, hasF_mem]; simp⟩
  have HOK0 := Lib.hid hok0
  have S2 := Lib.hid ((S1.alloc #[.int .i64 id] 3).imp (Imp.l (que_of_blk (cs := [.int .i64 id]) (by simp [maxLen]))))
  obtain ⟨f, hf⟩ : ∃ f, f = w.heap.size := ⟨_, rfl⟩
  obtain ⟨T, hT⟩ : ∃ T, T = fbfs (gl G) NS.length [(id, 0)] [id] := ⟨_, rfl⟩
  have HT := Lib.hid hT
  rw [← hT]
  clear hS hNS hw hn hl S0 S1 hm2 hc2 e0 hok0 hT
  go_enter Try.func13, Try.ntmps13
  go_wp2_with fail
  rw [← hf] at S2 ⊢
  clear hst hmm hf
  generalize w2.alloc _ = w3 at *
  go_loopw [6] (fun row wr => ∃ (n : Nat) (F : Fe) (q : List Int), Hid (fbfs (gl G) n F q = T) ∧ Hid (FOk NS F q) ∧ (pot NS F q ≤ n ∧ n ≤ NS.length) ∧ Hid (Aid.Own w0 No wr (Asn.que 3 row (numsK q) * (aMap Try.prog 3 f (iE F) * (aGm g G * C))))) (fun row wr => NS.length - mapN wr f + lenS row)
  case atStart => exact ⟨NS.length, [(id, 0)], [id], Lib.hid HT.out.symm, HOK0, ⟨by unfold pot; have := List.length_pos_of_mem hidN; simp; omega, Nat.le_refl _⟩, S2⟩
  case round =>
    clear S2 HOK0
    obtain ⟨n, F, q, HF, HK, ⟨hpot, hnN⟩, S⟩ := hrel
    have hmn := mapN_is (S.out.right.kn (At.l (at_map _ _ _ _)))
    rw [show (iE F).length = F.length from List.length_map _] at hmn
    have hFl := HK.out.len
    obtain ⟨A, c, hs⟩ := S.out.que.slice
    subst hs
    cases q with
    | nil =>
      have hTF : F = T := by
        have := HF.out
        cases n <;> exact this
      subst hTF
      clear hmn
      go_wp2_with fail
      go_returns
      exact ⟨f, rfl, S.out.right⟩
    | cons r q =>
      obtain ⟨gq, off, c2, he⟩ := S.out.que.at0 (by simp [numsK])
      cases he
      have hr1 := S.out.que.cell (j := 0) (u := .int .i64 r) rfl
      rw [Nat.add_zero] at hr1
      have hrw : I64w r := HWF.out r (by
        obtain ⟨p, hp, rfl⟩ := List.mem_map.1 (hasF_mem.1 (HK.out.qf r List.mem_cons_self))
        exact HK.out.ns p hp)
      have HRW := Lib.hid hrw
      have hlk := look_gm (k := gm_is (S.out.right.re (show _ = aGm g G * (aMap Try.prog 3 f (iE F) * C) by ac_rfl))) r hrw
      obtain ⟨A1, c1, hvs⟩ := (gm_row r (S.out.right.re (show _ = aGm g G * (aMap Try.prog 3 f (iE F) * C) by ac_rfl))).vec.slice
      rw [hvs] at hlk
      have HVS := Lib.hid hvs
      have hln : (numsK (r :: q)).length = q.length + 1 := by simp [numsK]
      have HMN := Lib.hid hmn
      clear hvs hrw hmn
      rw [hln] at S ⊢
      go_wp2_with fail
      clear hr1 hlk
      have HMNX := HMN.out
      go_loopw [6, 27] (fun row i wq => ∃ (j : Nat) (F' : Fe) (q' : List Int), j ≤ (gl G r).length ∧ i = .int .i64 j ∧ Hid (fin r ((gl G r).take j) (F, r :: q) = (F', r :: q')) ∧ Hid (FOk NS F' (r :: q')) ∧ Hid (q'.length + F.length = q.length + F'.length) ∧ Hid (Aid.Own w0 No wq (Asn.que 3 row (numsK (r :: q')) * (aMap Try.prog 3 f (iE F') * (aGm g G * C))))) (fun _ i _ => (gl G r).length - (intOf i).toNat)
      case atStart => exact ⟨0, F, q, Nat.zero_le _, rfl, Lib.hid rfl, HK, Lib.hid rfl, S⟩
      case round =>
        clear S
        obtain ⟨j, F1, q1, hj, rfl, HR, HK1, HPT, S⟩ := hrel
        obtain ⟨g2, o2, c2, he⟩ := S.out.que.at0 (by simp [numsK])
        subst he
        have hln1 : (numsK (r :: q1)).length = q1.length + 1 := by simp [numsK]
        have hL := HL.out r
        by_cases hlt : j < (gl G r).length
        · obtain ⟨x, hx⟩ : ∃ x, (gl G r)[j]? = some x := ⟨(gl G r)[j]'hlt, List.getElem?_eq_getElem _⟩
          have hxN := HNS.out r x (List.mem_of_getElem? hx)
          have hxw := HWF.out x hxN
          have SR := gm_row r (S.out.right.re (show _ = aGm g G * (aMap Try.prog 3 f (iE F1) * C) by ac_rfl))
          rw [HVS.out] at SR
          rcases SR.vec.forms with ⟨-, hz⟩ | ⟨gr, cr, her, -⟩
          · omega
          cases her
          have hcx : wr.cell? ⟨gr, j, none⟩ = some (.int .i64 x) := SR.vec.cell (by unfold numsK; rw [List.getElem?_map, hx]; rfl)
          have hlk := look_f2 (S.out.right.kn (At.l (at_map _ _ _ _))) x hxw
          have HX := Lib.hid hx
          have HXN := Lib.hid hxN
          have HXW := Lib.hid hxw
          rw [hln1] at S ⊢
          clear hx hxN hxw SR hln1 
          cases hh : hasF F1 x with
          | true =>
            rw [hh] at hlk
            go_wp2_with fail
            go_roundw
            case rel =>
              refine ⟨j + 1, F1, q1, by omega, by go_num, Lib.hid ?_, HK1, HPT, S⟩
              rw [take_snoc _ j x HX.out, fin_snoc, HR.out]
              unfold fstep
              rw [if_pos hh]
            case measure => simp [intOf]; omega
          | false =>
            rw [hh] at hlk
            go_upto_region 10 with fail
            clear hlk hcx
            have hr1 := S.out.que.cell (j := 0) (u := .int .i64 r) rfl
            rw [Nat.add_zero] at hr1
            have hl1 := look_f (S.out.right.kn (At.l (at_map _ _ _ _))) r HRW.out
            have hF1 := HK1.out.len
            have hd1 := dF_lt HK1.out r
            have hN := HN.out
            obtain ⟨w4, hst, hm4, hc4⟩ := (S.out.right.kn (At.l (at_map _ _ _ _))).store kI Try.underlying40 (by rw [show (iE F1).length = F1.length from List.length_map _]; unfold maxLen; omega) (key_int x HXW.out) (val := .int .i64 (dF F1 r + 1))
            go_upto_region 11 with fail
            clear hst hl1 hr1
            have S4 := (S.out.re (show _ = aMap Try.prog 3 f (iE F1) * (Asn.que 3 (.slice (some ⟨g2, o2, none⟩) (q1.length + 1) c2) (numsK (r :: q1)) * (aGm g G * C)) by ac_rfl)).mapTo hc4 hm4
            rw [off_iE hh] at S4
            have e4 : ((Lit.int .i64 x, Value.int .i64 (dF F1 r + 1)) : En) :: iE F1 = iE ((x, dF F1 r + 1) :: F1) := rfl
            rw [e4] at S4
            have S5 := Lib.hid ((S4.alloc #[.int .i64 x] 3).re (show _ = Asn.que 3 (.slice (some ⟨g2, o2, none⟩) (q1.length + 1) c2) (numsK (r :: q1)) * (Asn.blk w4.heap.size 3 #[.int .i64 x] * (aMap Try.prog 3 f (iE ((x, dF F1 r + 1) :: F1)) * (aGm g G * C))) by ac_rfl))
            clear S S4 e4 hm4 hc4
            have CX : Hid (Src Try.prog 1 26 (.slice (some ⟨w4.heap.size, 0, none⟩) 1 1) 1 [.int .i64 x] (w4.alloc (.cells #[.int .i64 x] 3))) := by
              have hbk := S5.out.has (Has.r (Has.l (has_blk w4.heap.size _ _)))
              exact Lib.hid (Src.ofSlice _ Try.underlying26 ⟨w4.heap.size, 0, none⟩ 1 1 [.int .i64 x] rfl (fun j u hj => by
                rw [Addr.add_lit, Nat.zero_add, hbk.cell]
                simpa using hj) (fun u hu => by rw [List.mem_singleton.1 hu]; rfl))
            have hln1' : (numsK (r :: q1)).length = q1.length + 1 := by simp [numsK]
            have hQ1 : q1.length + 1 ≤ 8000 := by
              have := HPT.out
              have := HK.out.len
              unfold pot at hpot
              rw [List.length_cons] at hpot
              omega
            go_upto_region 12 with (with_reducible refine wpList_append_que rfl (.tmp 47) (.tmp 49) 26 26 rfl 3 (.int .i64 0) 8 Try.underlying26 info_int rfl (.slice (some ⟨g2, o2, none⟩) (q1.length + 1) c2) (numsK (r :: q1)) rfl S5.out.que (.slice (some ⟨w4.heap.size, 0, none⟩) 1 1) rfl (.int .i64 x) CX.out ?c1 ?c2 ?_)
            case c1 => rw [hln1']; unfold maxLen; omega
            case c2 => rw [hln1']; omega
            intro v' w5 hv hc hf
            have S6 := ((S5.out.qapp hv hc hf).re (show _ = Asn.blk w4.heap.size 3 #[.int .i64 x] * (Asn.que 3 v' (numsK (r :: q1) ++ [.int .i64 x]) * (aMap Try.prog 3 f (iE ((x, dF F1 r + 1) :: F1)) * (aGm g G * C))) by ac_rfl)).right
            obtain ⟨A5, c5, he5⟩ := hv.slice
            subst he5
            clear hv hc hf S5 CX
            go_wp2_with fail
            go_roundw
            case rel =>
              refine ⟨j + 1, (x, dF F1 r + 1) :: F1, q1 ++ [x], by omega, by go_num, Lib.hid ?_, Lib.hid ?_, Lib.hid ?_, Lib.hid ?_⟩
              · rw [take_snoc _ j x HX.out, fin_snoc, HR.out]
                unfold fstep
                rw [if_neg (by simp [hh])]
                rfl
              · have := HK1.out.step (r := r) (tt := x) List.mem_cons_self HXN.out
                unfold fstep at this
                rw [if_neg (by simp [hh])] at this
                exact this
              · rw [List.length_append, List.length_cons]
                have := HPT.out
                simp
                omega
              · have e6 : numsK (r :: (q1 ++ [x])) = numsK (r :: q1) ++ [.int .i64 x] := numsK_snoc (r :: q1) x
                rw [e6]
                exact S6
            case measure => simp [intOf]; omega
        · have hje : j = (gl G r).length := by omega
          subst hje
          rw [hln1] at S ⊢
          clear hln1
          have hR := HR.out
          rw [List.take_length] at hR
          have hpt := HPT.out
          have hF1 := HK1.out.len
          have SQ := Lib.hid (S.out.qtail2 (x := .int .i64 r) (xs := numsK q1))
          rw [show (numsK q1).length = q1.length by simp [numsK]] at SQ
          clear HR HPT S
          go_wp2_with fail
          go_roundw
          case rel =>
            unfold pot at hpot
            rw [List.length_cons] at hpot
            obtain ⟨n, rfl⟩ : ∃ n', n = n' + 1 := ⟨n - 1, by omega⟩
            refine ⟨n, F1, q1, Lib.hid ?_, Lib.hid ⟨HK1.out.nd, HK1.out.ns, HK1.out.ds, fun a ha => HK1.out.qf a (List.mem_cons_of_mem _ ha)⟩, ⟨?_, by omega⟩, SQ⟩
            · rw [← HF.out]
              show _ = fbfs (gl G) n (fin r (gl G r) (F, r :: q)).1 (fin r (gl G r) (F, r :: q)).2.tail
              rw [hR]
              rfl
            · unfold pot
              omega
          case measure =>
            have hm1 := mapN_is (SQ.out.right.kn (At.l (at_map _ _ _ _)))
            rw [show (iE F1).length = F1.length from List.length_map _] at hm1
            rw [hm1, HMNX]
            simp only [lenS]
            omega
end Go.Proofs.Ytbcemognghkmcaa.Kt
