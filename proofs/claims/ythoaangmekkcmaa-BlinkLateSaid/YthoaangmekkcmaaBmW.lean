/- The document's Sound: of a world's pages it is true. -/
import Derived.Test.YthoaangmekkcmaaBmT
import Derived.Test.YthoaangmekkcmaaNdF
import Derived.Test.YthoaangmekkcmaaNdE
import Derived.Deep.DeepCutAuto

namespace Go.Proofs.Ythoaangmekkcmaa.Bk
open Go.ChangeShapes Go.WideShapes Go.ChangeAt Go.RowKit Go.PlainAid Aid Nt Nd Tr
set_option linter.unusedVariables false
set_option linter.unusedSimpArgs false
set_option linter.unusedSectionVars false
theorem infoStrB : (Try.prog.info? 9).map (fun i => (i.zero, i.size, i.bytes)) = some (some (.string ⟨#[]⟩), 1, 16) := by kernel_rfl
theorem textsB (a b : By) (w : World) (ha : a.length ≤ 100) (hb : b.length ≤ 100) :
    Calls Try.prog 18 #[.string (ofL a), .string (ofL b)] w fun e w' => e = .returned (.int .i64 (Lib.compareBytes a b)) ∧ ∃ n, w' = w.drewN n :=
  Texts_q (ofL a) (ofL b) w (by show a.length ≤ _; unfold maxLen; omega) (by show b.length ≤ _; unfold maxLen; omega)
set_option maxRecDepth 100000 in
set_option maxHeartbeats 4000000 in
theorem child_any (e : Ent) (w : World) :
    Calls Try.prog 38 #[.agg (entCells e)] w fun r w' => r = .returned (.int .i64 (childL e.val)) ∧ Below w.heap.size w w' := by
  have S := Lib.hid ((Own.none w).alloc (entCells e) 44)
  unfold entCells childL at *
  by_cases h2 : e.val.length = 2
  · obtain ⟨a, b, hv⟩ : ∃ a b, e.val = [a, b] := by
      match e.val, h2 with
      | [a, b], _ => exact ⟨a, b, rfl⟩
    rw [if_pos h2, hv]
    rw [hv] at S
    have hu : ((unnum [a, b] : Nat) : Int) = (a.toNat : Int) + (b.toNat : Int) * 256 := by
      simp only [unnum]
      omega
    rw [hu]
    rw [show ofL [a, b] = (⟨#[a, b]⟩ : ByteArray) from rfl] at S ⊢
    have ha := a.toNat_lt
    have hb := b.toNat_lt
    have hw1 : IntKind.i64.wrap ((b.toNat : Int) * 256) = (b.toNat : Int) * 256 := by rw [i64_is, IntWalk.wrap64_in _ ⟨by omega, by omega⟩]
    have hw2 : IntKind.i64.wrap ((a.toNat : Int) + (b.toNat : Int) * 256) = (a.toNat : Int) + (b.toNat : Int) * 256 := by rw [i64_is, IntWalk.wrap64_in _ ⟨by omega, by omega⟩]
    have hw3 : IntKind.i64.wrap (a.toNat : Int) = (a.toNat : Int) := by rw [i64_is, IntWalk.wrap64_in _ ⟨by omega, by omega⟩]
    have hw4 : IntKind.i64.wrap (b.toNat : Int) = (b.toNat : Int) := by rw [i64_is, IntWalk.wrap64_in _ ⟨by omega, by omega⟩]
    clear h2 hv hu
    generalize ofL e.key = ky at *
    go_enter Try.func38, Try.ntmps38
    go_upto_region 1 with fail
    obtain ⟨g1, hg1⟩ : ∃ g, g = w.heap.size := ⟨_, rfl⟩
    rw [← hg1] at S ⊢
    clear hg1
    generalize w.alloc _ = w1 at *
    obtain ⟨-, c1, -⟩ := ent_cells (S.out.has (Has.l (has_blk _ _ _)))
    go_wp2_with fail
    go_quiet (fail)
    have S2 := Lib.hid (S.out.drewN nq)
    clear S c1
    generalize w1.drewN nq = w2 at *
    go_wp2_with fail
    go_returns
    refine ⟨?_, S2.out.bel⟩
    show Ending.returned (Value.int .i64 (wrap64 (wrap64 (a.toNat : Int) + wrap64 (wrap64 (b.toNat : Int) * 256)))) = _
    rw [i64_is] at hw1 hw2 hw3 hw4
    rw [hw3, hw4, hw1, hw2]
  · rw [if_neg h2]
    have h2I : ((ofL e.val).size : Int) ≠ 2 := by show (e.val.length : Int) ≠ 2; omega
    clear h2
    generalize ofL e.val = vy at *
    generalize ofL e.key = ky at *
    go_enter Try.func38, Try.ntmps38
    go_upto_region 1 with fail
    obtain ⟨g1, hg1⟩ : ∃ g, g = w.heap.size := ⟨_, rfl⟩
    rw [← hg1] at S ⊢
    clear hg1
    generalize w.alloc _ = w1 at *
    obtain ⟨-, c1, -⟩ := ent_cells (S.out.has (Has.l (has_blk _ _ _)))
    go_wp2_with fail
    go_returns
    exact ⟨rfl, S.out.bel⟩

def ldV (E : List Ent) : List Value := E.map fun e => .int .i64 (childL e.val : Nat)
def kyV (E : List Ent) : List Value := E.map fun e => .string (ofL e.key)
theorem ldV_snoc (E : List Ent) (e : Ent) : ldV (E ++ [e]) = ldV E ++ [.int .i64 (childL e.val : Nat)] := by unfold ldV; rw [List.map_append]; rfl
theorem kyV_snoc (E : List Ent) (e : Ent) : kyV (E ++ [e]) = kyV E ++ [.string (ofL e.key)] := by unfold kyV; rw [List.map_append]; rfl
theorem Wg.inB {S : Sf} {l : List Ent} {ps : List Du} {n top : Nat} {ch : Nat → List Nat} (h : Wg S l ps n top ch) {K p : Nat} (hK : K ≤ top) (hp : p ∈ ch K) : p < n := by
  have h1 := h.nx
  rcases h.pg K p hK hp with g | g <;> omega
theorem pos_next {S : Sf} {ps A B : List Nat} {K : Nat} {l0 : By} {c : Nat} (h : Pos S 2 K ps A l0 c B) (hh : (S c).has = true) :
    ∃ (b : Nat) (B' : List Nat), B = b :: B' ∧ (S c).right = b ∧ Pos S 2 K ps (A ++ [c]) (S c).high b B' := by
  have hr := right_ok h.ok
  have hpost := h.post
  rw [hiN_has hh] at hpost
  cases B with
  | nil => cases hpost.1
  | cons b B' =>
    obtain ⟨g1, ⟨l2, g2, g3⟩, g4⟩ := hpost
    cases g2
    refine ⟨b, B', rfl, by omega, by rw [h.eq]; simp, ?_, g3, g4⟩
    obtain ⟨p0, g⟩ := h.pre
    refine ⟨p0, seg_app.2 ⟨_, _, g, rfl, ⟨l0, rfl, h.ok⟩, ?_⟩⟩
    rw [hiN_has hh]
    exact ⟨rfl, by omega⟩
theorem pos_last {S : Sf} {ps A B : List Nat} {K : Nat} {l0 : By} {c : Nat} (h : Pos S 2 K ps A l0 c B) (hh : (S c).has = false) : ps = A ++ [c] := by
  have hpost := h.post
  unfold hiN at hpost
  rw [hh, if_neg (by decide)] at hpost
  cases B with
  | nil => exact h.eq
  | cons b B' => obtain ⟨-, ⟨l2, g2, -⟩, -⟩ := hpost; cases g2
set_option maxRecDepth 100000 in
set_option maxHeartbeats 32000000 in
theorem sound_any (pb n c : Nat) (L : List Sp) (S : Sf) (l : List Ent) (ps : List Du) (top : Nat) (ch : Nat → List Nat) (hW : WS S l ps n top ch) (hn : n ≤ 256) (hP : PgOk S n L) (w0 w : World) (C : Asn) (hS : Own w0 No w (aPg (some ⟨pb, 0, none⟩) n c L * C)) :
    Calls Try.prog 11 #[.slice (some ⟨pb, 0, none⟩) n c, .int .i64 3, .string (ofL low)] w fun e w' => e = .returned (.bool true) ∧ Own w0 No w' (aPg (some ⟨pb, 0, none⟩) n c L * C) := by
  have HW := Lib.hid hW
  have HP := Lib.hid hP
  have hnx := hW.wg.nx
  have htop := hW.wg.four
  obtain ⟨y3, hy3, hye3⟩ := hP.at (show 3 < n by omega)
  have H3 := Lib.hid (fun W D (h : Own w0 No W (aPg (some ⟨pb, 0, none⟩) n c L * D)) => (pg_seven h 3 y3 hy3).1)
  rw [hye3] at H3
  obtain ⟨r1, r2, -⟩ := root_has hW.wg.tree
  have h3l : (S 3).level = (top : Int) := hW.wg.root3.1
  have h3t : (S 3).tree = 2 := hW.wg.tree.pos.ok.tr
  rw [h3t, h3l, r1, r2] at H3
  have h3n : (3 : Int) < (n : Int) := by omega
  have S0 := Lib.hid hS
  obtain ⟨LW, hLW⟩ : ∃ x, x = ofL low := ⟨_, rfl⟩
  rw [← hLW]
  have HLW := Lib.hid hLW
  clear hW hP hS hye3 r1 r2 h3t h3l hLW
  go_enter Try.func11, Try.ntmps11
  obtain ⟨-, z1, -, z3, -, z5, -⟩ := H3.out _ _ S0.out
  go_wp2_with fail
  clear z1 z3 z5
  go_loopw [7, 8] (fun f_ lv_ wr => ∃ (K f : Nat), K ≤ top ∧ f_ = .int .i64 f ∧ lv_ = .int .i64 K ∧ Hid (∃ B, Pos S 2 K (ch K) [] low f B) ∧ Hid (Own w0 No wr (aPg (some ⟨pb, 0, none⟩) n c L * C))) (fun _ lv_ _ => (intOf lv_).toNat)
  case atStart => exact ⟨top, 3, by omega, rfl, rfl, Lib.hid ⟨[], HW.out.wg.tree.pos⟩, S0⟩
  case round =>
    clear S0
    obtain ⟨K, f, hK, rfl, rfl, HF, S1⟩ := hrel
    have hK0 : (0 : Int) ≤ (K : Int) := by omega
    have hnd := HW.out.wg.tree.nod K hK
    have hcl : (ch K).length ≤ n := nodup_len n _ hnd (fun x hx => HW.out.wg.inB hK hx)
    have HM : Hid (∀ A B, ch K = A ++ B → (lists S A).length ≤ 6000) := Lib.hid (fun A B e => by
      have h1 := lists_le 21 (S := S) (A := A) (fun a ha => by
        have hm : a ∈ ch K := by rw [e]; exact List.mem_append_left _ ha
        obtain ⟨X, Y, e2⟩ := List.append_of_mem hm
        have hl := HW.out.wg.tree.lvl K hK
        rw [e2] at hl
        obtain ⟨l', hp⟩ := hl.pos
        exact fits_len hp.ok.ft)
      have h2 : A.length ≤ (ch K).length := by rw [e]; simp
      omega)
    have S2 := Lib.hid ((S1.out.alloc #[] 3).alloc #[] 9)
    rw [show (wr.alloc (.cells #[] 3)).heap.size = wr.heap.size + 1 by simp] at S2
    clear S1
    go_upto_region 11 with fail
    obtain ⟨g11, hgz⟩ : ∃ g, g = wr.heap.size := ⟨_, rfl⟩
    simp only [World.size_alloc, ← hgz]
    rw [← hgz] at S2
    clear hgz
    generalize World.alloc (World.alloc wr _) _ = w1 at *
    have S3 := Lib.hid (show Own w0 No w1 (aPg (some ⟨pb, 0, none⟩) n c L * (Asn.vec 3 1 (.slice (some ⟨g11, 0, none⟩) ((lists S []).length) 0) ((lists S []).length) (ldV (lists S [])) * (Asn.vec 9 1 (.slice (some ⟨g11 + 1, 0, none⟩) ((lists S []).length) 0) ((lists S []).length) (kyV (lists S [])) * C))) from
      ((S2.out.imp (Imp.l (blk_vec (cs := []) 0 1 rfl (by decide)))).re (show _ = Asn.blk g11 3 #[] * (Asn.vec 9 1 (.slice (some ⟨g11 + 1, 0, none⟩) 0 0) 0 [] * (aPg (some ⟨pb, 0, none⟩) n c L * C)) by ac_rfl) |>.imp (Imp.l (blk_vec (cs := []) 0 1 rfl (by decide)))).re (by ac_rfl))
    clear S2
    go_upto_block 2 with fail
    go_cut [11, 12] (fun s11 s12 wx => ∃ (EA KA : Option Addr) (ec kc : Nat), s11 = .slice EA (lists S (ch K)).length ec ∧ s12 = .slice KA (lists S (ch K)).length kc ∧ Hid (Own w0 No wx (aPg (some ⟨pb, 0, none⟩) n c L * (Asn.vec 3 1 (.slice EA ((lists S (ch K)).length) ec) ((lists S (ch K)).length) (ldV (lists S (ch K))) * (Asn.vec 9 1 (.slice KA ((lists S (ch K)).length) kc) ((lists S (ch K)).length) (kyV (lists S (ch K))) * C)))))
    case first =>
      as_aux_lemma =>
        go_wp2_with fail
        go_loopw [9, 10, 11, 12, 13] (fun fr at_ s11 s12 st wr => ∃ (A : List Nat) (p : Nat) (l0 : By) (EA KA : Option Addr) (ec kc : Nat), fr = .string (ofL l0) ∧ at_ = .int .i64 p ∧ s11 = .slice EA (lists S A).length ec ∧ s12 = .slice KA (lists S A).length kc ∧ st = .int .i64 A.length ∧ l0.length = 9 ∧ Hid (∃ B, Pos S 2 K (ch K) A l0 p B) ∧ Hid (Own w0 No wr (aPg (some ⟨pb, 0, none⟩) n c L * (Asn.vec 3 1 (.slice EA ((lists S A).length) ec) ((lists S A).length) (ldV (lists S A)) * (Asn.vec 9 1 (.slice KA ((lists S A).length) kc) ((lists S A).length) (kyV (lists S A)) * C))))) (fun _ _ _ _ st _ => 300 - (intOf st).toNat)
        case atStart => exact ⟨[], f, low, _, _, _, _, by rw [HLW.out], rfl, rfl, rfl, rfl, rfl, HF, S3⟩
        case round =>
          clear S3
          obtain ⟨A, p, l0, EA, KA, ec, kc, rfl, rfl, rfl, rfl, rfl, hl0, HPo, S3⟩ := hrel
          obtain ⟨B, hpos⟩ := HPo.out
          have hpn := HW.out.wg.inB hK hpos.mem
          have hAl : A.length < n := by
            have e := congrArg List.length hpos.eq
            rw [List.length_append, List.length_cons] at e
            omega
          have hAI : ¬ (n : Int) < (A.length : Int) := by omega
          have hpI : (p : Int) < (n : Int) := by omega
          have hp0 : ¬ (p : Int) < 0 := by omega
          have hM := HM.out A (p :: B) hpos.eq
          obtain ⟨y, hy, hye⟩ := HP.out.at hpn
          obtain ⟨⟨q0, q1, q2, q3, q4, q5, q6⟩, hrow⟩ := pg_seven S3.out p y hy
          rw [hye] at q0 q1 q2 q3 q4 q5 hrow
          rw [hpos.ok.tr] at q0
          rw [hpos.ok.lv] at q1
          obtain ⟨EA2, ec2, hyv⟩ := hrow.slice
          rw [hyv] at q6
          have HRow : Hid (∀ W D, Own w0 No W (aPg (some ⟨pb, 0, none⟩) n c L * D) → Row3 W (.slice EA2 (S p).list.length ec2) (S p).list) := Lib.hid (fun W D h => by
            have h1 := (pg_seven h p y hy).2
            rw [hye, hyv] at h1
            exact h1)
          have hfg := fits_good hpos.ok.ft
          have HGd := Lib.hid (fun W h => refGood_any (S p) (.agg (nodCells (S p) (.slice EA2 (S p).list.length ec2))) W ⟨_, rfl, h⟩)
          have hszl : sizeN (S p) ≤ 252 := hfg.2
          have HSz := Lib.hid (fun W h => refSize_any (S p) (.agg (nodCells (S p) (.slice EA2 (S p).list.length ec2))) W ⟨_, rfl, h⟩ (by omega))
          rw [hfg.1] at HGd
          unfold nodCells at HGd HSz
          rw [hpos.ok.tr, hpos.ok.lv] at HGd HSz
          have H21 : Hid (∀ W D, Own w0 No W (aPg (some ⟨pb, 0, none⟩) n c L * D) → W.cell? ⟨pb, 21, none⟩ = some (.int .i64 2)) := Lib.hid (fun W D h => (H3.out W D h).1)
          have hszI : ¬ (252 : Int) < ((sizeN (S p) : Nat) : Int) := by omega
          have hgs := goods hfg.1
          have HKy : Hid (∀ e, e ∈ (S p).list → e.key.length = 9) := Lib.hid hgs.ky
          have HHi : Hid ((S p).has = true → (S p).high.length = 9) := Lib.hid hgs.hh
          have hll : (S p).list.length ≤ 21 := fits_len hpos.ok.ft
          have HOk := Lib.hid hpos.ok
          have HPos := Lib.hid hpos
          generalize sizeN (S p) = sz at *
          clear hgs hfg hszl hrow HPo hpos
          have S4 := Lib.hid (S3.out.alloc #[.int .i64 2, .int .i64 K, .int .i64 (S p).stamp, .bool (S p).has, .string (ofL (S p).high), .int .i64 (S p).right, .slice EA2 (S p).list.length ec2] 52)
          clear S3
          go_upto_region 16 with fail
          obtain ⟨gd, hgz⟩ : ∃ g, g = wr.heap.size := ⟨_, rfl⟩
          rw [← hgz] at S4 ⊢
          clear hgz q0 q1 q2 q3 q4 q5 q6
          generalize World.alloc wr _ = w2 at *
          have S5 := Lib.hid (S4.out.drew.re (show _ = aPg (some ⟨pb, 0, none⟩) n c L * (Asn.blk gd 52 #[.int .i64 2, .int .i64 K, .int .i64 (S p).stamp, .bool (S p).has, .string (ofL (S p).high), .int .i64 (S p).right, .slice EA2 (S p).list.length ec2] * (Asn.vec 3 1 (.slice EA ((lists S A).length) ec) ((lists S A).length) (ldV (lists S A)) * (Asn.vec 9 1 (.slice KA ((lists S A).length) kc) ((lists S A).length) (kyV (lists S A)) * C))) by ac_rfl))
          have hk7 := seven7 (S4.out.has (Has.l (has_blk gd _ _)))
          have h21 := H21.out _ _ (S4.out.re (show _ = aPg (some ⟨pb, 0, none⟩) n c L * (Asn.blk gd 52 #[.int .i64 2, .int .i64 K, .int .i64 (S p).stamp, .bool (S p).has, .string (ofL (S p).high), .int .i64 (S p).right, .slice EA2 (S p).list.length ec2] * (Asn.vec 3 1 (.slice EA ((lists S A).length) ec) ((lists S A).length) (ldV (lists S A)) * (Asn.vec 9 1 (.slice KA ((lists S A).length) kc) ((lists S A).length) (kyV (lists S A)) * C))) by ac_rfl))
          obtain ⟨⟨k0, k1, k2, k3, k4, k5, k6⟩, -⟩ := hk7
          clear S4
          refine wp_region_held_drew (S := fun W : World => W.cell? ⟨gd, 0, none⟩ = some (.int .i64 2) ∧ W.cell? ⟨gd, 1, none⟩ = some (.int .i64 K) ∧ W.cell? ⟨gd, 2, none⟩ = some (.int .i64 (S p).stamp) ∧ W.cell? ⟨gd, 3, none⟩ = some (.bool (S p).has) ∧ W.cell? ⟨gd, 4, none⟩ = some (.string (ofL (S p).high)) ∧ W.cell? ⟨gd, 5, none⟩ = some (.int .i64 (S p).right) ∧ W.cell? ⟨gd, 6, none⟩ = some (.slice EA2 (S p).list.length ec2) ∧ W.cell? ⟨pb, 21, none⟩ = some (.int .i64 2)) (by kernel_rfl) ⟨k0, k1, k2, k3, k4, k5, k6, h21⟩ (fun hHeld => ?_)
          clear k0 k1 k2 k3 k4 k5 k6 h21
          generalize w2.drew = w3 at *
          refine' wpAnyH_take (i := 0) (oi := ?ot1z0) (v := ?vt1z0) ?ht1z0 ?st1z0 ?ft1z0 ?zt1z0 ?qt1z0 ?yt1z0 ?at1z0 ?rt1z0
          case ht1z0 => (simp only [List.getElem?_toArray, List.getElem?_cons_succ, List.getElem?_cons_zero]; rfl)
          case st1z0 => kernel_rfl
          case ft1z0 => kernel_rfl
          case zt1z0 => kernel_rfl
          case qt1z0 => exact fun _ _ _ h => h
          case yt1z0 => (refine Or.inl ⟨rfl, ?_⟩; intro w hSw; (try dsimp only at hSw); go_simp; try with_reducible rfl)
          case at1z0 => assumption
          case rt1z0 =>
          simp only [Act.put, List.setIfInBounds_toArray, List.set_cons_zero, List.set_cons_succ]
          refine' wpAnyH_take (i := 1) (oi := ?ot2z1) (v := ?vt2z1) ?ht2z1 ?st2z1 ?ft2z1 ?zt2z1 ?qt2z1 ?yt2z1 ?at2z1 ?rt2z1
          case ht2z1 => (simp only [List.getElem?_toArray, List.getElem?_cons_succ, List.getElem?_cons_zero]; rfl)
          case st2z1 => kernel_rfl
          case ft2z1 => kernel_rfl
          case zt2z1 => kernel_rfl
          case qt2z1 => exact fun _ _ _ h => h
          case yt2z1 => (refine Or.inl ⟨rfl, ?_⟩; intro w hSw; obtain ⟨hS1, hS2, hS3, hS4, hS5, hS6, hS7, hS8⟩ := hSw; go_simp; try with_reducible rfl)
          case at2z1 => assumption
          case rt2z1 =>
          simp only [Act.put, List.setIfInBounds_toArray, List.set_cons_zero, List.set_cons_succ]
          refine' wpAnyH_take (i := 2) (oi := ?ot3z2) (v := ?vt3z2) ?ht3z2 ?st3z2 ?ft3z2 ?zt3z2 ?qt3z2 ?yt3z2 ?at3z2 ?rt3z2
          case ht3z2 => (simp only [List.getElem?_toArray, List.getElem?_cons_succ, List.getElem?_cons_zero]; rfl)
          case st3z2 => kernel_rfl
          case ft3z2 => kernel_rfl
          case zt3z2 => kernel_rfl
          case qt3z2 => exact fun _ _ _ h => h
          case yt3z2 => (refine Or.inl ⟨rfl, ?_⟩; intro w hSw; (try dsimp only at hSw); go_simp; try with_reducible rfl)
          case at3z2 => assumption
          case rt3z2 =>
          simp only [Act.put, List.setIfInBounds_toArray, List.set_cons_zero, List.set_cons_succ]
          refine' wpAnyH_take (i := 3) (oi := ?ot4z3) (v := ?vt4z3) ?ht4z3 ?st4z3 ?ft4z3 ?zt4z3 ?qt4z3 ?yt4z3 ?at4z3 ?rt4z3
          case ht4z3 => (simp only [List.getElem?_toArray, List.getElem?_cons_succ, List.getElem?_cons_zero]; rfl)
          case st4z3 => kernel_rfl
          case ft4z3 => kernel_rfl
          case zt4z3 => kernel_rfl
          case qt4z3 => exact fun _ _ _ h => h
          case yt4z3 => (refine Or.inl ⟨rfl, ?_⟩; intro w hSw; (try dsimp only at hSw); go_simp; try with_reducible rfl)
          case at4z3 => assumption
          case rt4z3 =>
          simp only [Act.put, List.setIfInBounds_toArray, List.set_cons_zero, List.set_cons_succ]
          refine' wpAnyH_take (i := 4) (oi := ?ot5z4) (v := ?vt5z4) ?ht5z4 ?st5z4 ?ft5z4 ?zt5z4 ?qt5z4 ?yt5z4 ?at5z4 ?rt5z4
          case ht5z4 => (simp only [List.getElem?_toArray, List.getElem?_cons_succ, List.getElem?_cons_zero]; rfl)
          case st5z4 => kernel_rfl
          case ft5z4 => kernel_rfl
          case zt5z4 => kernel_rfl
          case qt5z4 => exact fun _ _ _ h => h
          case yt5z4 => (refine Or.inl ⟨rfl, ?_⟩; intro w hSw; (try dsimp only at hSw); go_simp; try with_reducible rfl)
          case at5z4 => assumption
          case rt5z4 =>
          simp only [Act.put, List.setIfInBounds_toArray, List.set_cons_zero, List.set_cons_succ]
          refine' wpAnyH_take (i := 5) (oi := ?ot6z5) (v := ?vt6z5) ?ht6z5 ?st6z5 ?ft6z5 ?zt6z5 ?qt6z5 ?yt6z5 ?at6z5 ?rt6z5
          case ht6z5 => (simp only [List.getElem?_toArray, List.getElem?_cons_succ, List.getElem?_cons_zero]; rfl)
          case st6z5 => kernel_rfl
          case ft6z5 => kernel_rfl
          case zt6z5 => kernel_rfl
          case qt6z5 => exact fun _ _ _ h => h
          case yt6z5 => (refine Or.inl ⟨rfl, ?_⟩; intro w hSw; (try dsimp only at hSw); go_simp; try with_reducible rfl)
          case at6z5 => assumption
          case rt6z5 =>
          simp only [Act.put, List.setIfInBounds_toArray, List.set_cons_zero, List.set_cons_succ]
          refine' wpAnyH_take (i := 6) (oi := ?ot7z6) (v := ?vt7z6) ?ht7z6 ?st7z6 ?ft7z6 ?zt7z6 ?qt7z6 ?yt7z6 ?at7z6 ?rt7z6
          case ht7z6 => (simp only [List.getElem?_toArray, List.getElem?_cons_succ, List.getElem?_cons_zero]; rfl)
          case st7z6 => kernel_rfl
          case ft7z6 => kernel_rfl
          case zt7z6 => kernel_rfl
          case qt7z6 => exact fun _ _ _ h => h
          case yt7z6 => (refine Or.inl ⟨rfl, ?_⟩; intro w hSw; obtain ⟨hS1, hS2, hS3, hS4, hS5, hS6, hS7, hS8⟩ := hSw; go_simp; try with_reducible rfl)
          case at7z6 => assumption
          case rt7z6 =>
          simp only [Act.put, List.setIfInBounds_toArray, List.set_cons_zero, List.set_cons_succ]
          refine' wpAnyH_take (i := 7) (oi := ?ot8z7) (v := ?vt8z7) ?ht8z7 ?st8z7 ?ft8z7 ?zt8z7 ?qt8z7 ?yt8z7 ?at8z7 ?rt8z7
          case ht8z7 => (simp only [List.getElem?_toArray, List.getElem?_cons_succ, List.getElem?_cons_zero]; rfl)
          case st8z7 => kernel_rfl
          case ft8z7 => kernel_rfl
          case zt8z7 => kernel_rfl
          case qt8z7 => exact fun _ _ _ h => h
          case yt8z7 => (refine Or.inl ⟨rfl, ?_⟩; intro w hSw; (try dsimp only at hSw); go_simp; try with_reducible rfl)
          case at8z7 => assumption
          case rt8z7 =>
          simp only [Act.put, List.setIfInBounds_toArray, List.set_cons_zero, List.set_cons_succ]
          refine' wpAnyH_take (i := 8) (oi := ?ot9z8) (v := ?vt9z8) ?ht9z8 ?st9z8 ?ft9z8 ?zt9z8 ?qt9z8 ?yt9z8 ?at9z8 ?rt9z8
          case ht9z8 => (simp only [List.getElem?_toArray, List.getElem?_cons_succ, List.getElem?_cons_zero]; rfl)
          case st9z8 => kernel_rfl
          case ft9z8 => kernel_rfl
          case zt9z8 => kernel_rfl
          case qt9z8 => exact fun _ _ _ h => h
          case yt9z8 => (refine Or.inl ⟨rfl, ?_⟩; intro w hSw; (try dsimp only at hSw); go_simp; try with_reducible rfl)
          case at9z8 => assumption
          case rt9z8 =>
          simp only [Act.put, List.setIfInBounds_toArray, List.set_cons_zero, List.set_cons_succ]
          refine' wpAnyH_take (i := 9) (oi := ?ot10z9) (v := ?vt10z9) ?ht10z9 ?st10z9 ?ft10z9 ?zt10z9 ?qt10z9 ?yt10z9 ?at10z9 ?rt10z9
          case ht10z9 => (simp only [List.getElem?_toArray, List.getElem?_cons_succ, List.getElem?_cons_zero]; rfl)
          case st10z9 => kernel_rfl
          case ft10z9 => kernel_rfl
          case zt10z9 => kernel_rfl
          case qt10z9 => exact fun _ _ _ h => h
          case yt10z9 => (refine Or.inl ⟨rfl, ?_⟩; intro w hSw; (try dsimp only at hSw); go_simp; try with_reducible rfl)
          case at10z9 => assumption
          case rt10z9 =>
          simp only [Act.put, List.setIfInBounds_toArray, List.set_cons_zero, List.set_cons_succ]
          refine' wpAnyH_take (i := 10) (oi := ?ot11z10) (v := ?vt11z10) ?ht11z10 ?st11z10 ?ft11z10 ?zt11z10 ?qt11z10 ?yt11z10 ?at11z10 ?rt11z10
          case ht11z10 => (simp only [List.getElem?_toArray, List.getElem?_cons_succ, List.getElem?_cons_zero]; rfl)
          case st11z10 => kernel_rfl
          case ft11z10 => kernel_rfl
          case zt11z10 => kernel_rfl
          case qt11z10 => exact fun _ _ _ h => h
          case yt11z10 => (refine Or.inl ⟨rfl, ?_⟩; intro w hSw; (try dsimp only at hSw); go_simp; try with_reducible rfl)
          case at11z10 => assumption
          case rt11z10 =>
          simp only [Act.put, List.setIfInBounds_toArray, List.set_cons_zero, List.set_cons_succ]
          refine' wpAnyH_take (i := 11) (oi := ?ot12z11) (v := ?vt12z11) ?ht12z11 ?st12z11 ?ft12z11 ?zt12z11 ?qt12z11 ?yt12z11 ?at12z11 ?rt12z11
          case ht12z11 => (simp only [List.getElem?_toArray, List.getElem?_cons_succ, List.getElem?_cons_zero]; rfl)
          case st12z11 => kernel_rfl
          case ft12z11 => kernel_rfl
          case zt12z11 => kernel_rfl
          case qt12z11 => exact fun _ _ _ h => h
          case yt12z11 => (refine Or.inl ⟨rfl, ?_⟩; intro w hSw; obtain ⟨hS1, hS2, hS3, hS4, hS5, hS6, hS7, hS8⟩ := hSw; go_simp; try with_reducible rfl)
          case at12z11 => assumption
          case rt12z11 =>
          simp only [Act.put, List.setIfInBounds_toArray, List.set_cons_zero, List.set_cons_succ]
          refine' wpAnyH_take (i := 12) (oi := ?ot13z12) (v := ?vt13z12) ?ht13z12 ?st13z12 ?ft13z12 ?zt13z12 ?qt13z12 ?yt13z12 ?at13z12 ?rt13z12
          case ht13z12 => (simp only [List.getElem?_toArray, List.getElem?_cons_succ, List.getElem?_cons_zero]; rfl)
          case st13z12 => kernel_rfl
          case ft13z12 => kernel_rfl
          case zt13z12 => kernel_rfl
          case qt13z12 => exact fun _ _ _ h => h
          case yt13z12 => (refine Or.inl ⟨rfl, ?_⟩; intro w hSw; (try dsimp only at hSw); go_simp; try with_reducible rfl)
          case at13z12 => assumption
          case rt13z12 =>
          simp only [Act.put, List.setIfInBounds_toArray, List.set_cons_zero, List.set_cons_succ]
          refine' wpAnyH_take (i := 13) (oi := ?ot14z13) (v := ?vt14z13) ?ht14z13 ?st14z13 ?ft14z13 ?zt14z13 ?qt14z13 ?yt14z13 ?at14z13 ?rt14z13
          case ht14z13 => (simp only [List.getElem?_toArray, List.getElem?_cons_succ, List.getElem?_cons_zero]; rfl)
          case st14z13 => kernel_rfl
          case ft14z13 => kernel_rfl
          case zt14z13 => kernel_rfl
          case qt14z13 => exact fun _ _ _ h => h
          case yt14z13 => (refine Or.inl ⟨rfl, ?_⟩; intro w hSw; (try dsimp only at hSw); go_simp; try with_reducible rfl)
          case at14z13 => assumption
          case rt14z13 =>
          simp only [Act.put, List.setIfInBounds_toArray, List.set_cons_zero, List.set_cons_succ]
          refine' wpAnyH_take (i := 14) (oi := ?ot15z14) (v := ?vt15z14) ?ht15z14 ?st15z14 ?ft15z14 ?zt15z14 ?qt15z14 ?yt15z14 ?at15z14 ?rt15z14
          case ht15z14 => (simp only [List.getElem?_toArray, List.getElem?_cons_succ, List.getElem?_cons_zero]; rfl)
          case st15z14 => kernel_rfl
          case ft15z14 => kernel_rfl
          case zt15z14 => kernel_rfl
          case qt15z14 => exact fun _ _ _ h => h
          case yt15z14 => (refine Or.inl ⟨rfl, ?_⟩; intro w hSw; (try dsimp only at hSw); go_simp; try with_reducible rfl)
          case at15z14 => assumption
          case rt15z14 =>
          simp only [Act.put, List.setIfInBounds_toArray, List.set_cons_zero, List.set_cons_succ]
          refine' wpAnyH_take (i := 15) (oi := ?ot16z15) (v := ?vt16z15) ?ht16z15 ?st16z15 ?ft16z15 ?zt16z15 ?qt16z15 ?yt16z15 ?at16z15 ?rt16z15
          case ht16z15 => (simp only [List.getElem?_toArray, List.getElem?_cons_succ, List.getElem?_cons_zero]; rfl)
          case st16z15 => kernel_rfl
          case ft16z15 => kernel_rfl
          case zt16z15 => kernel_rfl
          case qt16z15 => exact fun _ _ _ h => h
          case yt16z15 => (refine Or.inl ⟨rfl, ?_⟩; intro w hSw; obtain ⟨hS1, hS2, hS3, hS4, hS5, hS6, hS7, hS8⟩ := hSw; go_simp; try with_reducible rfl)
          case at16z15 => assumption
          case rt16z15 =>
          simp only [Act.put, List.setIfInBounds_toArray, List.set_cons_zero, List.set_cons_succ]
          refine wpAnyH_ready (rs := [16]) (by kernel_rfl) (by simp) ?_
          refine' AllReadyH.cons (o := ?ob17z16) ?hb17z16 ?kb17z16 AllReadyH.nil
          case hb17z16 => (simp only [List.getElem?_toArray, List.getElem?_cons_succ, List.getElem?_cons_zero]; rfl)
          case kb17z16 =>
            intro K0 hK
            go_simp
            refine (HGd.out _ (HRow.out _ _ S5.out)).mono ?_
            rintro er wg18 ⟨rfl, hb⟩
            have SG18 := Lib.hid (S5.out.below hb)
            clear hb S5
            refine hK.out _ _ ?_ (fun hHeld => ?_)
            · obtain ⟨⟨k0, k1, k2, k3, k4, k5, k6⟩, -⟩ := seven7 (SG18.out.has (Has.r (Has.l (has_blk gd _ _))))
              exact ⟨k0, k1, k2, k3, k4, k5, k6, H21.out _ _ SG18.out⟩
            clear hK K0
            (try simp only [Act.put, List.setIfInBounds_toArray, List.set_cons_zero, List.set_cons_succ])
            (try clear hH2)
            refine' wpAnyH_take (i := 17) (oi := ?ot19z17) (v := ?vt19z17) ?ht19z17 ?st19z17 ?ft19z17 ?zt19z17 ?qt19z17 ?yt19z17 ?at19z17 ?rt19z17
            case ht19z17 => (simp only [List.getElem?_toArray, List.getElem?_cons_succ, List.getElem?_cons_zero]; rfl)
            case st19z17 => kernel_rfl
            case ft19z17 => kernel_rfl
            case zt19z17 => kernel_rfl
            case qt19z17 => exact fun _ _ _ h => h
            case yt19z17 => (refine Or.inl ⟨rfl, ?_⟩; intro w hSw; (try dsimp only at hSw); go_simp; try with_reducible rfl)
            case at19z17 => assumption
            case rt19z17 =>
            simp only [Act.put, List.setIfInBounds_toArray, List.set_cons_zero, List.set_cons_succ]
            refine' wpAnyH_take (i := 18) (oi := ?ot20z18) (v := ?vt20z18) ?ht20z18 ?st20z18 ?ft20z18 ?zt20z18 ?qt20z18 ?yt20z18 ?at20z18 ?rt20z18
            case ht20z18 => (simp only [List.getElem?_toArray, List.getElem?_cons_succ, List.getElem?_cons_zero]; rfl)
            case st20z18 => kernel_rfl
            case ft20z18 => kernel_rfl
            case zt20z18 => kernel_rfl
            case qt20z18 => exact fun _ _ _ h => h
            case yt20z18 => (refine Or.inl ⟨rfl, ?_⟩; intro w hSw; (try dsimp only at hSw); go_simp; try with_reducible rfl)
            case at20z18 => assumption
            case rt20z18 =>
            simp only [Act.put, List.setIfInBounds_toArray, List.set_cons_zero, List.set_cons_succ]
            refine' wpAnyH_take (i := 19) (oi := ?ot21z19) (v := ?vt21z19) ?ht21z19 ?st21z19 ?ft21z19 ?zt21z19 ?qt21z19 ?yt21z19 ?at21z19 ?rt21z19
            case ht21z19 => (simp only [List.getElem?_toArray, List.getElem?_cons_succ, List.getElem?_cons_zero]; rfl)
            case st21z19 => kernel_rfl
            case ft21z19 => kernel_rfl
            case zt21z19 => kernel_rfl
            case qt21z19 => exact fun _ _ _ h => h
            case yt21z19 => (refine Or.inl ⟨rfl, ?_⟩; intro w hSw; (try dsimp only at hSw); go_simp; try with_reducible rfl)
            case at21z19 => assumption
            case rt21z19 =>
            simp only [Act.put, List.setIfInBounds_toArray, List.set_cons_zero, List.set_cons_succ]
            refine' wpAnyH_take (i := 20) (oi := ?ot22z20) (v := ?vt22z20) ?ht22z20 ?st22z20 ?ft22z20 ?zt22z20 ?qt22z20 ?yt22z20 ?at22z20 ?rt22z20
            case ht22z20 => (simp only [List.getElem?_toArray, List.getElem?_cons_succ, List.getElem?_cons_zero]; rfl)
            case st22z20 => kernel_rfl
            case ft22z20 => kernel_rfl
            case zt22z20 => kernel_rfl
            case qt22z20 => exact fun _ _ _ h => h
            case yt22z20 => (refine Or.inl ⟨rfl, ?_⟩; intro w hSw; obtain ⟨hS1, hS2, hS3, hS4, hS5, hS6, hS7, hS8⟩ := hSw; go_simp; try with_reducible rfl)
            case at22z20 => assumption
            case rt22z20 =>
            simp only [Act.put, List.setIfInBounds_toArray, List.set_cons_zero, List.set_cons_succ]
            refine wpAnyH_ready (rs := [21]) (by kernel_rfl) (by simp) ?_
            refine' AllReadyH.cons (o := ?ob23z21) ?hb23z21 ?kb23z21 AllReadyH.nil
            case hb23z21 => (simp only [List.getElem?_toArray, List.getElem?_cons_succ, List.getElem?_cons_zero]; rfl)
            case kb23z21 =>
              intro K0 hK
              go_simp
              refine (HSz.out _ (HRow.out _ _ SG18.out)).mono ?_
              rintro er wg24 ⟨rfl, hb⟩
              have SG24 := Lib.hid (SG18.out.below hb)
              clear hb SG18
              refine hK.out _ _ ?_ (fun hHeld => ?_)
              · obtain ⟨⟨k0, k1, k2, k3, k4, k5, k6⟩, -⟩ := seven7 (SG24.out.has (Has.r (Has.l (has_blk gd _ _))))
                exact ⟨k0, k1, k2, k3, k4, k5, k6, H21.out _ _ SG24.out⟩
              clear hK K0
              (try simp only [Act.put, List.setIfInBounds_toArray, List.set_cons_zero, List.set_cons_succ])
              (try clear hH2)
              refine' wpAnyH_take (i := 22) (oi := ?ot25z22) (v := ?vt25z22) ?ht25z22 ?st25z22 ?ft25z22 ?zt25z22 ?qt25z22 ?yt25z22 ?at25z22 ?rt25z22
              case ht25z22 => (simp only [List.getElem?_toArray, List.getElem?_cons_succ, List.getElem?_cons_zero]; rfl)
              case st25z22 => kernel_rfl
              case ft25z22 => kernel_rfl
              case zt25z22 => kernel_rfl
              case qt25z22 => exact fun _ _ _ h => h
              case yt25z22 => (refine Or.inl ⟨rfl, ?_⟩; intro w hSw; (try dsimp only at hSw); go_simp; try with_reducible rfl)
              case at25z22 => assumption
              case rt25z22 =>
              simp only [Act.put, List.setIfInBounds_toArray, List.set_cons_zero, List.set_cons_succ]
              refine' wpAnyH_take (i := 23) (oi := ?ot26z23) (v := ?vt26z23) ?ht26z23 ?st26z23 ?ft26z23 ?zt26z23 ?qt26z23 ?yt26z23 ?at26z23 ?rt26z23
              case ht26z23 => (simp only [List.getElem?_toArray, List.getElem?_cons_succ, List.getElem?_cons_zero]; rfl)
              case st26z23 => kernel_rfl
              case ft26z23 => kernel_rfl
              case zt26z23 => kernel_rfl
              case qt26z23 => exact fun _ _ _ h => h
              case yt26z23 => (refine Or.inl ⟨rfl, ?_⟩; intro w hSw; (try dsimp only at hSw); go_simp; try with_reducible rfl)
              case at26z23 => assumption
              case rt26z23 =>
              simp only [Act.put, List.setIfInBounds_toArray, List.set_cons_zero, List.set_cons_succ]
              refine wpAnyH_done (by kernel_rfl) ?_ _
              as_aux_lemma =>
                go_wp2_with fail
                go_loopw [11, 12, 15] (fun s11 s12 ii wr => ∃ (i : Nat) (EA KA : Option Addr) (ec kc : Nat), i ≤ (S p).list.length ∧ s11 = .slice EA ((lists S A).length + i) ec ∧ s12 = .slice KA ((lists S A).length + i) kc ∧ ii = .int .i64 i ∧ Hid (Own w0 No wr (aPg (some ⟨pb, 0, none⟩) n c L * (Asn.blk gd 52 #[.int .i64 2, .int .i64 K, .int .i64 (S p).stamp, .bool (S p).has, .string (ofL (S p).high), .int .i64 (S p).right, .slice EA2 (S p).list.length ec2] * (Asn.vec 3 1 (.slice EA ((lists S A).length + i) ec) ((lists S A).length + i) (ldV (lists S A ++ (S p).list.take i)) * (Asn.vec 9 1 (.slice KA ((lists S A).length + i) kc) ((lists S A).length + i) (kyV (lists S A ++ (S p).list.take i)) * C)))))) (fun _ _ ii _ => (S p).list.length - (intOf ii).toNat)
                case atStart => exact ⟨0, EA, KA, ec, kc, Nat.zero_le _, rfl, rfl, rfl, Lib.hid (by rw [List.take_zero, List.append_nil, Nat.add_zero]; exact SG24.out)⟩
                case round =>
                  clear SG24
                  obtain ⟨i, EA, KA, ec, kc, hi, rfl, rfl, rfl, S9⟩ := hrel
                  by_cases hlt : i < (S p).list.length
                  · as_aux_lemma =>
                      obtain ⟨e, he⟩ : ∃ e, (S p).list[i]? = some e := ⟨_, List.getElem?_eq_getElem hlt⟩
                      have hltI : (i : Int) < ((S p).list.length : Int) := by omega
                      have hmem := List.mem_of_getElem? he
                      have hkl := HKy.out e hmem
                      have hcn := cmp_ge e.key l0
                      rw [not_lt.2 (HOk.out.lo e hmem)] at hcn
                      have hcn2 : ¬ Lib.compareBytes e.key l0 < 0 := Int.not_lt.2 (of_decide_eq_true hcn)
                      have HTx := Lib.hid (fun W => textsB e.key l0 W (by omega) (by omega))
                      obtain ⟨eb, eo, rfl, -, -⟩ := (HRow.out _ _ S9.out).at he
                      have HE := Lib.hid (fun W D (h : Own w0 No W (aPg (some ⟨pb, 0, none⟩) n c L * D)) => (HRow.out W D h).at' he)
                      have HCh := Lib.hid (fun W => child_any e W)
                      unfold entCells at HCh
                      have htk : (S p).list.take (i + 1) = (S p).list.take i ++ [e] := by rw [List.take_add_one, he]; rfl
                      have HTk := Lib.hid htk
                      generalize Lib.compareBytes e.key l0 = cb at *
                      generalize hcv : childL e.val = cv at *
                      have HCV := Lib.hid hcv
                      clear hcv
                      obtain ⟨-, -, -, -, -, -, d6⟩ := (seven7 (S9.out.has (Has.r (Has.l (has_blk gd _ _))))).1
                      obtain ⟨a0, a1, a2⟩ := HE.out _ _ S9.out
                      clear hcn hmem he htk HOk HPos HKy HHi HGd HSz H21 HW HP H3 HF HLW
                      go_wp2_with fail
                      refine (HTx.out _).mono ?_
                      rintro er w10 ⟨rfl, nn, rfl⟩
                      have S10 := Lib.hid (S9.out.drewN nn)
                      clear S9 HTx d6 a0 a1 a2
                      generalize World.drewN _ nn = w11 at *
                      obtain ⟨-, -, -, -, -, -, d6⟩ := (seven7 (S10.out.has (Has.r (Has.l (has_blk gd _ _))))).1
                      obtain ⟨a0, a1, a2⟩ := HE.out _ _ S10.out
                      go_wp2_with fail
                      refine (HCh.out _).mono ?_
                      rintro er w12 ⟨rfl, hb⟩
                      have S11 := Lib.hid (S10.out.below hb)
                      clear hb S10 HCh d6 a0 a1 a2
                      have S12 := Lib.hid ((S11.out.alloc #[.int .i64 (cv : Nat)] 3).re (show _ = Asn.vec 3 1 (.slice EA ((lists S A).length + i) ec) ((lists S A).length + i) (ldV (lists S A ++ (S p).list.take i)) * (Asn.blk w12.heap.size 3 #[.int .i64 (cv : Nat)] * (aPg (some ⟨pb, 0, none⟩) n c L * (Asn.blk gd 52 #[.int .i64 2, .int .i64 K, .int .i64 (S p).stamp, .bool (S p).has, .string (ofL (S p).high), .int .i64 (S p).right, .slice (some ⟨eb, eo, none⟩) (S p).list.length ec2] * (Asn.vec 9 1 (.slice KA ((lists S A).length + i) kc) ((lists S A).length + i) (kyV (lists S A ++ (S p).list.take i)) * C)))) by ac_rfl))
                      have CX : Hid (Src Try.prog 1 50 (.slice (some ⟨w12.heap.size, 0, none⟩) 1 1) 1 [.int .i64 (cv : Nat)] (w12.alloc (.cells #[.int .i64 (cv : Nat)] 3))) := Lib.hid (src_blk Try.underlying50 (Blk.new w12 #[.int .i64 (cv : Nat)] 3) rfl (by intro u hu; simp at hu; subst hu; rfl))
                      clear S11
                      go_wp2_with (with_reducible refine wpList_append_vec rfl (.tmp 115) (.tmp 122) 50 50 rfl 3 _ 1 8 Try.underlying50 infoInt ?c1 ?c2 (.slice EA ((lists S A).length + i) ec) ((lists S A).length + i) (ldV (lists S A ++ (S p).list.take i)) ?c7 S12.out.vec (.slice (some ⟨w12.heap.size, 0, none⟩) 1 1) ?c8 1 _ CX.out ?c3 ?c4 ?_)
                      case c1 => rfl
                      case c2 => decide
                      case c3 => unfold maxLen; omega
                      case c4 => omega
                      try (case c7 => rfl)
                      try (case c8 => rfl)
                      intro v' w13 hv hc hf
                      have S13 := Lib.hid (S12.out.app hv hc hf)
                      obtain ⟨A5, c5, rfl⟩ := hv.slice
                      clear S12 CX hv hc hf
                      have S14 := Lib.hid ((S13.out.re (show _ = Asn.blk w12.heap.size 3 #[.int .i64 (cv : Nat)] * (aPg (some ⟨pb, 0, none⟩) n c L * (Asn.blk gd 52 #[.int .i64 2, .int .i64 K, .int .i64 (S p).stamp, .bool (S p).has, .string (ofL (S p).high), .int .i64 (S p).right, .slice (some ⟨eb, eo, none⟩) (S p).list.length ec2] * (Asn.vec 3 1 (.slice A5 ((lists S A).length + i + 1) c5) ((lists S A).length + i + 1) (ldV (lists S A ++ (S p).list.take i) ++ [.int .i64 (cv : Nat)]) * (Asn.vec 9 1 (.slice KA ((lists S A).length + i) kc) ((lists S A).length + i) (kyV (lists S A ++ (S p).list.take i)) * C)))) by ac_rfl)).right)
                      clear S13
                      obtain ⟨-, -, -, -, -, -, d6⟩ := (seven7 (S14.out.has (Has.r (Has.l (has_blk gd _ _))))).1
                      obtain ⟨a0, a1, a2⟩ := HE.out _ _ S14.out
                      have S15 := Lib.hid ((S14.out.alloc #[.string (ofL e.key)] 9).re (show _ = Asn.vec 9 1 (.slice KA ((lists S A).length + i) kc) ((lists S A).length + i) (kyV (lists S A ++ (S p).list.take i)) * (Asn.blk w13.heap.size 9 #[.string (ofL e.key)] * (aPg (some ⟨pb, 0, none⟩) n c L * (Asn.blk gd 52 #[.int .i64 2, .int .i64 K, .int .i64 (S p).stamp, .bool (S p).has, .string (ofL (S p).high), .int .i64 (S p).right, .slice (some ⟨eb, eo, none⟩) (S p).list.length ec2] * (Asn.vec 3 1 (.slice A5 ((lists S A).length + i + 1) c5) ((lists S A).length + i + 1) (ldV (lists S A ++ (S p).list.take i) ++ [.int .i64 (cv : Nat)]) * C)))) by ac_rfl))
                      have CX : Hid (Src Try.prog 1 89 (.slice (some ⟨w13.heap.size, 0, none⟩) 1 1) 1 [.string (ofL e.key)] (w13.alloc (.cells #[.string (ofL e.key)] 9))) := Lib.hid (src_blk Try.underlying89 (Blk.new w13 #[.string (ofL e.key)] 9) rfl (by intro u hu; simp at hu; subst hu; rfl))
                      clear S14
                      go_wp2_with (with_reducible refine wpList_append_vec rfl (.tmp 124) (.tmp 131) 89 89 rfl 9 _ 1 16 Try.underlying89 infoStrB ?c1 ?c2 (.slice KA ((lists S A).length + i) kc) ((lists S A).length + i) (kyV (lists S A ++ (S p).list.take i)) ?c7 S15.out.vec (.slice (some ⟨w13.heap.size, 0, none⟩) 1 1) ?c8 1 _ CX.out ?c3 ?c4 ?_)
                      case c1 => rfl
                      case c2 => decide
                      case c3 => unfold maxLen; omega
                      case c4 => omega
                      try (case c7 => rfl)
                      try (case c8 => rfl)
                      intro v' w14 hv hc hf
                      have S16 := Lib.hid (S15.out.app hv hc hf)
                      obtain ⟨A6, c6, rfl⟩ := hv.slice
                      clear S15 CX hv hc hf d6 a0 a1 a2
                      go_wp2_with fail
                      go_roundw
                      case rel => exact ⟨i + 1, A5, A6, c5, c6, by omega, rfl, rfl, by go_num, Lib.hid (by
                        rw [HTk.out, ← List.append_assoc, ldV_snoc, kyV_snoc, HCV.out]
                        exact (S16.out.re (show _ = Asn.blk w13.heap.size 9 #[.string (ofL e.key)] * (aPg (some ⟨pb, 0, none⟩) n c L * (Asn.blk gd 52 #[.int .i64 2, .int .i64 K, .int .i64 (S p).stamp, .bool (S p).has, .string (ofL (S p).high), .int .i64 (S p).right, .slice (some ⟨eb, eo, none⟩) (S p).list.length ec2] * (Asn.vec 3 1 (.slice A5 ((lists S A).length + (i + 1)) c5) ((lists S A).length + (i + 1)) (ldV (lists S A ++ (S p).list.take i) ++ [.int .i64 (cv : Nat)]) * (Asn.vec 9 1 (.slice A6 ((lists S A).length + (i + 1)) c6) ((lists S A).length + (i + 1)) (kyV (lists S A ++ (S p).list.take i) ++ [.string (ofL e.key)]) * C)))) by ac_rfl)).right)⟩
                      case measure => simp only [intOf]; omega
                  · obtain rfl : i = (S p).list.length := by omega
                    rw [List.take_length] at S9
                    have hnI : ¬ ((S p).list.length : Int) < ((S p).list.length : Int) := by omega
                    by_cases hK1 : K = 0
                    · as_aux_lemma =>
                        have hK1I : ¬ (0 : Int) < (K : Int) := by omega
                        clear hK1
                        obtain ⟨⟨-, -, -, k3, k4, k5, k6⟩, -⟩ := seven7 (S9.out.has (Has.r (Has.l (has_blk gd _ _))))
                        cases hh : (S p).has with
                        | false =>
                          rw [hh] at k3
                          rw [HOk.out.nr hh] at k5
                          have hE : lists S (ch K) = lists S A ++ (S p).list := by
                            rw [pos_last HPos.out hh, lists_app, lists_cons]
                            simp [lists]
                          have HE := Lib.hid hE
                          clear hE
                          go_wp2_with fail
                          go_meet
                          case rel => exact ⟨EA, KA, ec, kc, by rw [HE.out, List.length_append], by rw [HE.out, List.length_append], Lib.hid (by
                            rw [HE.out, List.length_append]
                            exact (S9.out.re (show _ = Asn.blk gd 52 #[.int .i64 2, .int .i64 K, .int .i64 (S p).stamp, .bool (S p).has, .string (ofL (S p).high), .int .i64 (S p).right, .slice EA2 (S p).list.length ec2] * (aPg (some ⟨pb, 0, none⟩) n c L * (Asn.vec 3 1 (.slice EA ((lists S A).length + (S p).list.length) ec) ((lists S A).length + (S p).list.length) (ldV (lists S A ++ (S p).list)) * (Asn.vec 9 1 (.slice KA ((lists S A).length + (S p).list.length) kc) ((lists S A).length + (S p).list.length) (kyV (lists S A ++ (S p).list)) * C))) by ac_rfl)).right)⟩
                        | true =>
                          rw [hh] at k3
                          obtain ⟨b, B', hBe, hrb, hpos2⟩ := pos_next HPos.out hh
                          have hb0 : (b : Int) ≠ 0 := by rw [← hrb]; exact HOk.out.rt hh
                          have hb1 : ¬ b = 0 := by omega
                          have hb2 : ((b : Int) == 0) = false := by simpa using hb1
                          have hb3 : ((b : Int) != 0) = true := by simpa using hb1
                          rw [hrb] at k5
                          have hcn := cmp_ge (S p).high l0
                          rw [not_lt.2 (le_of_lt (HOk.out.hi hh))] at hcn
                          have hcn2 : ¬ Lib.compareBytes (S p).high l0 < 0 := Int.not_lt.2 (of_decide_eq_true hcn)
                          have hl9 := HHi.out hh
                          have HTx := Lib.hid (fun W => textsB (S p).high l0 W (by omega) (by omega))
                          have HP2 : Hid (∃ B, Pos S 2 K (ch K) (A ++ [p]) (S p).high b B) := Lib.hid ⟨_, hpos2⟩
                          have hE : lists S (A ++ [p]) = lists S A ++ (S p).list := by
                            rw [lists_app, lists_cons]
                            simp [lists]
                          have HE := Lib.hid hE
                          generalize Lib.compareBytes (S p).high l0 = cb at *
                          clear hE hcn hpos2 hBe
                          go_wp2_with fail
                          refine (HTx.out _).mono ?_
                          rintro er w20 ⟨rfl, nn, rfl⟩
                          have S10 := Lib.hid (S9.out.drewN nn)
                          clear k3 k4 k5 k6
                          obtain ⟨⟨-, -, -, -, k4, k5, -⟩, -⟩ := seven7 (S10.out.has (Has.r (Has.l (has_blk gd _ _))))
                          rw [hrb] at k5
                          clear S9 HTx hrb
                          generalize World.drewN _ nn = w21 at *
                          go_wp2_with fail
                          go_roundw
                          case rel => exact ⟨A ++ [p], b, (S p).high, EA, KA, ec, kc, rfl, rfl, by rw [HE.out, List.length_append], by rw [HE.out, List.length_append], by rw [List.length_append, List.length_singleton]; go_num, hl9, HP2, Lib.hid (by
                            rw [HE.out, List.length_append]
                            exact (S10.out.re (show _ = Asn.blk gd 52 #[.int .i64 2, .int .i64 K, .int .i64 (S p).stamp, .bool (S p).has, .string (ofL (S p).high), .int .i64 (S p).right, .slice EA2 (S p).list.length ec2] * (aPg (some ⟨pb, 0, none⟩) n c L * (Asn.vec 3 1 (.slice EA ((lists S A).length + (S p).list.length) ec) ((lists S A).length + (S p).list.length) (ldV (lists S A ++ (S p).list)) * (Asn.vec 9 1 (.slice KA ((lists S A).length + (S p).list.length) kc) ((lists S A).length + (S p).list.length) (kyV (lists S A ++ (S p).list)) * C))) by ac_rfl)).right)⟩
                          case measure => simp only [intOf]; omega

                    · have hK1I : (0 : Int) < (K : Int) := by omega
                      by_cases hA0 : A = []
                      · as_aux_lemma =>
                          have hpf : p = f := by
                            obtain ⟨B0, hf⟩ := HF.out
                            have e := HPos.out.eq
                            rw [hf.eq, hA0] at e
                            exact (List.cons.inj e).1.symm
                          have hl0w : l0 = low := by
                            obtain ⟨p0, h⟩ := HPos.out.pre
                            rw [hA0] at h
                            exact (Option.some.inj h.1).symm
                          obtain ⟨e, r, he, hek⟩ := HOk.out.fst (by omega)
                          have hne : ((S p).list.length : Int) ≠ 0 := by rw [he, List.length_cons]; omega
                          have hpos0 : (0 : Int) < ((S p).list.length : Int) := by omega
                          have hne1 : ¬ (S p).list.length = 0 := by omega
                          have hne2 : ¬ (S p).list = [] := by rw [he]; simp
                          have hne3 : (((S p).list.length : Int) == 0) = false := by simpa using hne2
                          have he0 : (S p).list[0]? = some e := by rw [he]; rfl
                          obtain ⟨eb, eo, rfl, -, -⟩ := (HRow.out _ _ S9.out).at he0
                          obtain ⟨a0, a1, a2⟩ := (HRow.out _ _ S9.out).at' he0
                          rw [hek, hl0w, ← HLW.out, Nat.zero_mul, Nat.add_zero] at a0
                          have hpfI : (p : Int) = (f : Int) := by rw [hpf]
                          clear he hek he0 hl0w hA0 hpf
                          obtain ⟨⟨-, -, -, k3, k4, k5, k6⟩, -⟩ := seven7 (S9.out.has (Has.r (Has.l (has_blk gd _ _))))
                          cases hh : (S p).has with
                          | false =>
                            rw [hh] at k3
                            rw [HOk.out.nr hh] at k5
                            have hE : lists S (ch K) = lists S A ++ (S p).list := by
                              rw [pos_last HPos.out hh, lists_app, lists_cons]
                              simp [lists]
                            have HE := Lib.hid hE
                            clear hE
                            go_wp2_with fail
                            go_meet
                            case rel => exact ⟨EA, KA, ec, kc, by rw [HE.out, List.length_append], by rw [HE.out, List.length_append], Lib.hid (by
                              rw [HE.out, List.length_append]
                              exact (S9.out.re (show _ = Asn.blk gd 52 #[.int .i64 2, .int .i64 K, .int .i64 (S p).stamp, .bool (S p).has, .string (ofL (S p).high), .int .i64 (S p).right, .slice (some ⟨eb, eo, none⟩) (S p).list.length ec2] * (aPg (some ⟨pb, 0, none⟩) n c L * (Asn.vec 3 1 (.slice EA ((lists S A).length + (S p).list.length) ec) ((lists S A).length + (S p).list.length) (ldV (lists S A ++ (S p).list)) * (Asn.vec 9 1 (.slice KA ((lists S A).length + (S p).list.length) kc) ((lists S A).length + (S p).list.length) (kyV (lists S A ++ (S p).list)) * C))) by ac_rfl)).right)⟩
                          | true =>
                            rw [hh] at k3
                            obtain ⟨b, B', hBe, hrb, hpos2⟩ := pos_next HPos.out hh
                            have hb0 : (b : Int) ≠ 0 := by rw [← hrb]; exact HOk.out.rt hh
                            have hb1 : ¬ b = 0 := by omega
                            have hb2 : ((b : Int) == 0) = false := by simpa using hb1
                            have hb3 : ((b : Int) != 0) = true := by simpa using hb1
                            rw [hrb] at k5
                            have hcn := cmp_ge (S p).high l0
                            rw [not_lt.2 (le_of_lt (HOk.out.hi hh))] at hcn
                            have hcn2 : ¬ Lib.compareBytes (S p).high l0 < 0 := Int.not_lt.2 (of_decide_eq_true hcn)
                            have hl9 := HHi.out hh
                            have HTx := Lib.hid (fun W => textsB (S p).high l0 W (by omega) (by omega))
                            have HP2 : Hid (∃ B, Pos S 2 K (ch K) (A ++ [p]) (S p).high b B) := Lib.hid ⟨_, hpos2⟩
                            have hE : lists S (A ++ [p]) = lists S A ++ (S p).list := by
                              rw [lists_app, lists_cons]
                              simp [lists]
                            have HE := Lib.hid hE
                            generalize Lib.compareBytes (S p).high l0 = cb at *
                            clear hE hcn hpos2 hBe
                            go_wp2_with fail
                            refine (HTx.out _).mono ?_
                            rintro er w20 ⟨rfl, nn, rfl⟩
                            have S10 := Lib.hid (S9.out.drewN nn)
                            clear k3 k4 k5 k6
                            obtain ⟨⟨-, -, -, -, k4, k5, -⟩, -⟩ := seven7 (S10.out.has (Has.r (Has.l (has_blk gd _ _))))
                            rw [hrb] at k5
                            clear S9 HTx hrb
                            generalize World.drewN _ nn = w21 at *
                            go_wp2_with fail
                            go_roundw
                            case rel => exact ⟨A ++ [p], b, (S p).high, EA, KA, ec, kc, rfl, rfl, by rw [HE.out, List.length_append], by rw [HE.out, List.length_append], by rw [List.length_append, List.length_singleton]; go_num, hl9, HP2, Lib.hid (by
                              rw [HE.out, List.length_append]
                              exact (S10.out.re (show _ = Asn.blk gd 52 #[.int .i64 2, .int .i64 K, .int .i64 (S p).stamp, .bool (S p).has, .string (ofL (S p).high), .int .i64 (S p).right, .slice (some ⟨eb, eo, none⟩) (S p).list.length ec2] * (aPg (some ⟨pb, 0, none⟩) n c L * (Asn.vec 3 1 (.slice EA ((lists S A).length + (S p).list.length) ec) ((lists S A).length + (S p).list.length) (ldV (lists S A ++ (S p).list)) * (Asn.vec 9 1 (.slice KA ((lists S A).length + (S p).list.length) kc) ((lists S A).length + (S p).list.length) (kyV (lists S A ++ (S p).list)) * C))) by ac_rfl)).right)⟩
                            case measure => simp only [intOf]; omega

                      · as_aux_lemma =>
                          have hpf : (p : Int) ≠ (f : Int) := by
                            obtain ⟨B0, hf⟩ := HF.out
                            intro e
                            have e1 := HPos.out.eq
                            rw [hf.eq] at e1
                            have hnd2 := hnd
                            rw [hf.eq, e1] at hnd2
                            cases A with
                            | nil => exact hA0 rfl
                            | cons a A' =>
                              have e2 := (List.cons.inj e1).1
                              have e3 : p = f := by omega
                              rw [List.cons_append] at hnd2
                              exact (List.nodup_cons.1 hnd2).1 (by rw [← e2, ← e3]; simp)
                          obtain ⟨⟨-, -, -, k3, k4, k5, k6⟩, -⟩ := seven7 (S9.out.has (Has.r (Has.l (has_blk gd _ _))))
                          cases hh : (S p).has with
                          | false =>
                            rw [hh] at k3
                            rw [HOk.out.nr hh] at k5
                            have hE : lists S (ch K) = lists S A ++ (S p).list := by
                              rw [pos_last HPos.out hh, lists_app, lists_cons]
                              simp [lists]
                            have HE := Lib.hid hE
                            clear hE
                            go_wp2_with fail
                            go_meet
                            case rel => exact ⟨EA, KA, ec, kc, by rw [HE.out, List.length_append], by rw [HE.out, List.length_append], Lib.hid (by
                              rw [HE.out, List.length_append]
                              exact (S9.out.re (show _ = Asn.blk gd 52 #[.int .i64 2, .int .i64 K, .int .i64 (S p).stamp, .bool (S p).has, .string (ofL (S p).high), .int .i64 (S p).right, .slice EA2 (S p).list.length ec2] * (aPg (some ⟨pb, 0, none⟩) n c L * (Asn.vec 3 1 (.slice EA ((lists S A).length + (S p).list.length) ec) ((lists S A).length + (S p).list.length) (ldV (lists S A ++ (S p).list)) * (Asn.vec 9 1 (.slice KA ((lists S A).length + (S p).list.length) kc) ((lists S A).length + (S p).list.length) (kyV (lists S A ++ (S p).list)) * C))) by ac_rfl)).right)⟩
                          | true =>
                            rw [hh] at k3
                            obtain ⟨b, B', hBe, hrb, hpos2⟩ := pos_next HPos.out hh
                            have hb0 : (b : Int) ≠ 0 := by rw [← hrb]; exact HOk.out.rt hh
                            have hb1 : ¬ b = 0 := by omega
                            have hb2 : ((b : Int) == 0) = false := by simpa using hb1
                            have hb3 : ((b : Int) != 0) = true := by simpa using hb1
                            rw [hrb] at k5
                            have hcn := cmp_ge (S p).high l0
                            rw [not_lt.2 (le_of_lt (HOk.out.hi hh))] at hcn
                            have hcn2 : ¬ Lib.compareBytes (S p).high l0 < 0 := Int.not_lt.2 (of_decide_eq_true hcn)
                            have hl9 := HHi.out hh
                            have HTx := Lib.hid (fun W => textsB (S p).high l0 W (by omega) (by omega))
                            have HP2 : Hid (∃ B, Pos S 2 K (ch K) (A ++ [p]) (S p).high b B) := Lib.hid ⟨_, hpos2⟩
                            have hE : lists S (A ++ [p]) = lists S A ++ (S p).list := by
                              rw [lists_app, lists_cons]
                              simp [lists]
                            have HE := Lib.hid hE
                            generalize Lib.compareBytes (S p).high l0 = cb at *
                            clear hE hcn hpos2 hBe
                            go_wp2_with fail
                            refine (HTx.out _).mono ?_
                            rintro er w20 ⟨rfl, nn, rfl⟩
                            have S10 := Lib.hid (S9.out.drewN nn)
                            clear k3 k4 k5 k6
                            obtain ⟨⟨-, -, -, -, k4, k5, -⟩, -⟩ := seven7 (S10.out.has (Has.r (Has.l (has_blk gd _ _))))
                            rw [hrb] at k5
                            clear S9 HTx hrb
                            generalize World.drewN _ nn = w21 at *
                            go_wp2_with fail
                            go_roundw
                            case rel => exact ⟨A ++ [p], b, (S p).high, EA, KA, ec, kc, rfl, rfl, by rw [HE.out, List.length_append], by rw [HE.out, List.length_append], by rw [List.length_append, List.length_singleton]; go_num, hl9, HP2, Lib.hid (by
                              rw [HE.out, List.length_append]
                              exact (S10.out.re (show _ = Asn.blk gd 52 #[.int .i64 2, .int .i64 K, .int .i64 (S p).stamp, .bool (S p).has, .string (ofL (S p).high), .int .i64 (S p).right, .slice EA2 (S p).list.length ec2] * (aPg (some ⟨pb, 0, none⟩) n c L * (Asn.vec 3 1 (.slice EA ((lists S A).length + (S p).list.length) ec) ((lists S A).length + (S p).list.length) (ldV (lists S A ++ (S p).list)) * (Asn.vec 9 1 (.slice KA ((lists S A).length + (S p).list.length) kc) ((lists S A).length + (S p).list.length) (kyV (lists S A ++ (S p).list)) * C))) by ac_rfl)).right)⟩
                            case measure => simp only [intOf]; omega

    case rest =>
      as_aux_lemma =>
        obtain ⟨EA, KA, ec, kc, rfl, rfl, S4⟩ := hcut
        clear S3
        by_cases hK1 : K = 0
        · subst hK1
          go_wp2_with fail
          go_returns
          exact ⟨rfl, (S4.out.re (show _ = (Asn.vec 3 1 (.slice EA ((lists S (ch 0)).length) ec) ((lists S (ch 0)).length) (ldV (lists S (ch 0))) * Asn.vec 9 1 (.slice KA ((lists S (ch 0)).length) kc) ((lists S (ch 0)).length) (kyV (lists S (ch 0)))) * (aPg (some ⟨pb, 0, none⟩) n c L * C) by ac_rfl)).right⟩
        · obtain ⟨K', rfl⟩ : ∃ k, K = k + 1 := ⟨K - 1, by omega⟩
          have hKz : ((K' + 1 : Nat) : Int) ≠ 0 := by omega
          have hlw : IntKind.i64.wrap (((K' + 1 : Nat) : Int) - 1) = (K' : Int) := by rw [i64_is, IntWalk.wrap64_in _ ⟨by omega, by omega⟩]; omega
          obtain ⟨e0, he0, hp1⟩ := first_lead HW.out.wg.tree (L := K') (by omega)
          obtain ⟨E, hE⟩ : ∃ E, E = lists S (ch (K' + 1)) := ⟨_, rfl⟩
          have HEE := Lib.hid hE
          rw [← hE] at he0 S4 ⊢
          have hEl := (List.getElem?_eq_some_iff.1 he0).1
          have HKE := Lib.hid (fun k (h : KP E (ch K') k) => kp_end HW.out.wg.tree (L := K') (by omega) (by rw [hE] at h; exact h))
          rw [← hE] at HKE
          have hEm : E.length ≤ 6000 := by rw [hE]; exact HM.out (ch (K' + 1)) [] (by simp)
          clear hE
          rcases S4.out.right.vec.forms with ⟨-, hz⟩ | ⟨eb, ecap, he, -, -, -⟩
          · exact absurd hz (by omega)
          obtain ⟨rfl, rfl⟩ : EA = some ⟨eb, 0, none⟩ ∧ ec = ecap := by
            injection he with h1 h2 h3
            exact ⟨h1, h3⟩
          rcases S4.out.right.right.vec.forms with ⟨-, hz⟩ | ⟨kb, kcap, he2, -, -, -⟩
          · exact absurd hz (by omega)
          obtain ⟨rfl, rfl⟩ : KA = some ⟨kb, 0, none⟩ ∧ kc = kcap := by
            injection he2 with h1 h2 h3
            exact ⟨h1, h3⟩
          have HLd := Lib.hid (fun W (h : Own w0 No W (aPg (some ⟨pb, 0, none⟩) n c L * (Asn.vec 3 1 (.slice (some ⟨eb, 0, none⟩) (E.length) ec) (E.length) (ldV (E)) * (Asn.vec 9 1 (.slice (some ⟨kb, 0, none⟩) (E.length) kc) (E.length) (kyV (E)) * C)))) k e (he : E[k]? = some e) => h.right.vec.cell (j := k) (u := .int .i64 (childL e.val : Nat)) (by unfold ldV; rw [List.getElem?_map, he]; rfl))
          have HKd := Lib.hid (fun W (h : Own w0 No W (aPg (some ⟨pb, 0, none⟩) n c L * (Asn.vec 3 1 (.slice (some ⟨eb, 0, none⟩) (E.length) ec) (E.length) (ldV (E)) * (Asn.vec 9 1 (.slice (some ⟨kb, 0, none⟩) (E.length) kc) (E.length) (kyV (E)) * C)))) k e (he : E[k]? = some e) => h.right.right.vec.cell (j := k) (u := .string (ofL e.key)) (by unfold kyV; rw [List.getElem?_map, he]; rfl))
          have c0 := HLd.out _ S4.out 0 e0 he0
          have hE0 : (0 : Int) < (E.length : Int) := by omega
          have HP1 := Lib.hid hp1
          clear he he2 hp1
          generalize childL e0.val = f1 at *
          go_wp2_with fail
          clear c0
          go_loopw [9, 10, 16, 17] (fun fr at_ kk st wr => ∃ (A : List Nat) (p : Nat) (l0 : By) (k : Nat), fr = .string (ofL l0) ∧ at_ = .int .i64 p ∧ kk = .int .i64 k ∧ st = .int .i64 A.length ∧ Hid (∃ B, Pos S 2 K' (ch K') A l0 p B) ∧ Hid (KP E A k) ∧ Hid (Own w0 No wr (aPg (some ⟨pb, 0, none⟩) n c L * (Asn.vec 3 1 (.slice (some ⟨eb, 0, none⟩) (E.length) ec) (E.length) (ldV (E)) * (Asn.vec 9 1 (.slice (some ⟨kb, 0, none⟩) (E.length) kc) (E.length) (kyV (E)) * C))))) (fun _ _ _ st _ => 300 - (intOf st).toNat)
          case atStart => exact ⟨[], f1, low, 0, by rw [HLW.out], rfl, rfl, rfl, HP1, Lib.hid (kp_start E), S4⟩
          case round =>
            clear S4
            obtain ⟨A, p, l0, k, rfl, rfl, rfl, rfl, HPo, HK, S5⟩ := hrel
            obtain ⟨B, hpos⟩ := HPo.out
            have hK2 : K' ≤ top := by omega
            have hpn := HW.out.wg.inB hK2 hpos.mem
            have hcl2 : (ch K').length ≤ n := nodup_len n _ (HW.out.wg.tree.nod K' hK2) (fun x hx => HW.out.wg.inB hK2 hx)
            have hAl : A.length < n := by
              have e := congrArg List.length hpos.eq
              rw [List.length_append, List.length_cons] at e
              omega
            have hAI : ¬ (n : Int) < (A.length : Int) := by omega
            have hpI : (p : Int) < (n : Int) := by omega
            have hp0 : ¬ (p : Int) < 0 := by omega
            obtain ⟨y, hy, hye⟩ := HP.out.at hpn
            obtain ⟨⟨-, -, -, q3, q4, q5, -⟩, -⟩ := pg_seven S5.out p y hy
            rw [hye] at q3 q4 q5
            have HPos := Lib.hid hpos
            have hkle := HK.out.le
            have HHit := Lib.hid (fun (e : Ent) (he : E[k]? = some e) (hc : childL e.val = p) => kp_hit HW.out.wg.tree (L := K') (by omega) hpos (k := k) (by rw [← HEE.out]; exact HK.out) (by rw [← HEE.out]; exact he) hc)
            have HMiss := Lib.hid (fun (hm : ∀ e, E[k]? = some e → childL e.val ≠ p) => kp_miss HW.out.wg.tree (L := K') (by omega) hpos (k := k) (by rw [← HEE.out]; exact HK.out) (by rw [← HEE.out]; exact hm))
            rw [← HEE.out] at HHit HMiss
            clear hpos HPo hye
            by_cases hkl : k < E.length
            · obtain ⟨e, he⟩ : ∃ e, E[k]? = some e := ⟨_, List.getElem?_eq_getElem hkl⟩
              have hkI : (k : Int) < (E.length : Int) := by omega
              have e1 := HLd.out _ S5.out k e he
              have e2 := HKd.out _ S5.out k e he
              by_cases hc : childL e.val = p
              · as_aux_lemma =>
                  obtain ⟨hek, hkp⟩ := HHit.out e he hc
                  rw [hc] at e1
                  rw [hek] at e2
                  clear HHit HMiss he hek hc
                  have hkw : IntKind.i64.wrap ((k : Int) + 1) = (k : Int) + 1 := by rw [i64_is, IntWalk.wrap64_in _ ⟨by omega, by omega⟩]
                  have HK2 := Lib.hid (hkp)
                  cases hh : (S p).has with
                  | false =>
                    rw [hh] at q3
                    have hkn : k + 1 = E.length := HKE.out _ (by rw [pos_last HPos.out hh]; exact HK2.out)
                    have hkI2 : ((k + 1 : Nat) : Int) = (E.length : Int) := by rw [hkn]
                    clear q4 q5 HPos HK2
                    go_wp2_with fail
                    go_roundw
                    case rel => exact ⟨K', f1, by omega, rfl, by first | rfl | (rw [hlw]) | go_num, HP1, Lib.hid (S5.out.re (show _ = (Asn.vec 3 1 (.slice (some ⟨eb, 0, none⟩) (E.length) ec) (E.length) (ldV (E)) * Asn.vec 9 1 (.slice (some ⟨kb, 0, none⟩) (E.length) kc) (E.length) (kyV (E))) * (aPg (some ⟨pb, 0, none⟩) n c L * C) by ac_rfl)).right⟩
                    case measure => simp only [intOf]; omega
                  | true =>
                    rw [hh] at q3
                    obtain ⟨b, B', hBe, hrb, hpos2⟩ := pos_next HPos.out hh
                    rw [hrb] at q5
                    have HP2 : Hid (∃ B, Pos S 2 K' (ch K') (A ++ [p]) (S p).high b B) := Lib.hid ⟨_, hpos2⟩
                    clear hpos2 hBe hrb HPos
                    go_wp2_with fail
                    go_roundw
                    case rel => exact ⟨A ++ [p], b, (S p).high, k + 1, rfl, rfl, by go_num, by rw [List.length_append, List.length_singleton]; go_num, HP2, HK2, S5⟩
                    case measure => simp only [intOf]; omega

              · as_aux_lemma =>
                  have hcI : ((childL e.val : Nat) : Int) ≠ (p : Int) := by omega
                  have hkp := HMiss.out (fun x hx => by rw [he] at hx; cases hx; exact hc)
                  generalize childL e.val = cv at *
                  clear HHit HMiss he hc e2
                  have HK2 := Lib.hid (hkp)
                  cases hh : (S p).has with
                  | false =>
                    rw [hh] at q3
                    have hkn : k = E.length := HKE.out _ (by rw [pos_last HPos.out hh]; exact HK2.out)
                    omega
                  | true =>
                    rw [hh] at q3
                    obtain ⟨b, B', hBe, hrb, hpos2⟩ := pos_next HPos.out hh
                    rw [hrb] at q5
                    have HP2 : Hid (∃ B, Pos S 2 K' (ch K') (A ++ [p]) (S p).high b B) := Lib.hid ⟨_, hpos2⟩
                    clear hpos2 hBe hrb HPos
                    go_wp2_with fail
                    go_roundw
                    case rel => exact ⟨A ++ [p], b, (S p).high, k, rfl, rfl, by go_num, by rw [List.length_append, List.length_singleton]; go_num, HP2, HK2, S5⟩
                    case measure => simp only [intOf]; omega

            · as_aux_lemma =>
                have hkI : ¬ (k : Int) < (E.length : Int) := by omega
                have hkp := HMiss.out (fun x hx => absurd (List.getElem?_eq_some_iff.1 hx).1 hkl)
                clear HHit HMiss
                have HK2 := Lib.hid (hkp)
                cases hh : (S p).has with
                | false =>
                  rw [hh] at q3
                  have hkn : k = E.length := HKE.out _ (by rw [pos_last HPos.out hh]; exact HK2.out)
                  have hkI2 : ((k : Nat) : Int) = (E.length : Int) := by rw [hkn]
                  clear q4 q5 HPos HK2
                  go_wp2_with fail
                  go_roundw
                  case rel => exact ⟨K', f1, by omega, rfl, by first | rfl | (rw [hlw]) | go_num, HP1, Lib.hid (S5.out.re (show _ = (Asn.vec 3 1 (.slice (some ⟨eb, 0, none⟩) (E.length) ec) (E.length) (ldV (E)) * Asn.vec 9 1 (.slice (some ⟨kb, 0, none⟩) (E.length) kc) (E.length) (kyV (E))) * (aPg (some ⟨pb, 0, none⟩) n c L * C) by ac_rfl)).right⟩
                  case measure => simp only [intOf]; omega
                | true =>
                  rw [hh] at q3
                  obtain ⟨b, B', hBe, hrb, hpos2⟩ := pos_next HPos.out hh
                  rw [hrb] at q5
                  have HP2 : Hid (∃ B, Pos S 2 K' (ch K') (A ++ [p]) (S p).high b B) := Lib.hid ⟨_, hpos2⟩
                  clear hpos2 hBe hrb HPos
                  go_wp2_with fail
                  go_roundw
                  case rel => exact ⟨A ++ [p], b, (S p).high, k, rfl, rfl, by go_num, by rw [List.length_append, List.length_singleton]; go_num, HP2, HK2, S5⟩
                  case measure => simp only [intOf]; omega
end Go.Proofs.Ythoaangmekkcmaa.Bk
