/- BlinkSeeks walked. -/
import Derived.Test.YteiiogaopgfpfaaBmR
import Derived.Test.YteiiogaopgfpfaaMnB
import Derived.Test.YteiiogaopgfpfaaNdS
import Derived.Test.YteiiogaopgfpfaaNdV
import Derived.Deep.DeepCutAuto

namespace Go.Proofs.Yteiiogaopgfpfaa.Bk
open Go.ChangeShapes Go.WideShapes Go.ChangeAt Go.RowKit Go.PlainAid Aid Nt Nd Tr
open Ky (keyZ key_any)
set_option linter.unusedVariables false
set_option linter.unusedSimpArgs false
set_option linter.unusedSectionVars false
theorem aWd_three {w0 w : World} {O0 : Nat → Prop} {g gs : Nat} {S : Sf} {V : Nat → Value} {vl vp : Value} {l : List Ent} {ps : List Po} {n : Int} {C : Asn} (h : Own w0 O0 w (aWd g gs S V vl l vp ps n * C)) :
    w.cell? ⟨g, 0, none⟩ = some (.pointer (some ⟨gs, 0, none⟩)) ∧ w.cell? ⟨g, 3, none⟩ = some (.int .i64 n) := by
  unfold aWd sPtr at h
  obtain ⟨c0, c1, c2, c3⟩ := post_cellsB (h.has (Has.l (Has.l (has_blk g _ _))))
  exact ⟨c0, c3⟩
/-- The law's world behind any deeds. -/
structure Wx (g gs : Nat) (w0 wr : World) (S : Sf) (V : Nat → Value) (vl : Value) (l : List Ent) (vp : Value) (ps : List Du) (n top : Nat) (ch : Nat → List Nat) : Prop where
  ws : WS S l ps n top ch
  nn : n ≤ 256
  own : Own w0 No wr (aWd g gs S V vl l vp (ps.map du) n * Asn.emp)
theorem texts_any (a b : By) (w : World) (ha : a.length ≤ 100) (hb : b.length ≤ 100) :
    Calls Try.prog 17 #[.string (ofL a), .string (ofL b)] w fun e w' => e = .returned (.int .i64 (Lib.compareBytes a b)) ∧ ∃ n, w' = w.drewN n :=
  Texts_q (ofL a) (ofL b) w (by show a.length ≤ _; unfold maxLen; omega) (by show b.length ≤ _; unfold maxLen; omega)
def wantL (S : Sf) (ch : Nat → List Nat) (key : By) (top j : Nat) : List Int := (List.range j).map fun i => (fnd S key (ch (top - i)) : Int)
theorem wantL_len (S : Sf) (ch : Nat → List Nat) (key : By) (top j : Nat) : (wantL S ch key top j).length = j := by unfold wantL; simp
theorem wantL_snoc (S : Sf) (ch : Nat → List Nat) (key : By) (top j : Nat) : wantL S ch key top (j + 1) = wantL S ch key top j ++ [(fnd S key (ch (top - j)) : Int)] := by
  unfold wantL
  rw [List.range_succ, List.map_append]
  rfl
theorem idx_of {A B : List Nat} {p : Nat} (h : (A ++ p :: B).Nodup) : (A ++ p :: B).idxOf p = A.length := by
  have hn : p ∉ A := fun g => by
    rw [List.nodup_append] at h
    exact h.2.2 p g p (by simp) rfl
  rw [List.idxOf_append, if_neg hn, List.idxOf_cons_self, Nat.zero_add]
def wlen : Value → Nat
  | .slice _ n _ => n
  | _ => 0
theorem Wg.inN {S : Sf} {l : List Ent} {ps : List Du} {n top : Nat} {ch : Nat → List Nat} (h : Wg S l ps n top ch) {K p : Nat} (hK : K ≤ top) (hp : p ∈ ch K) : p < n := by
  have h1 := h.nx
  rcases h.pg K p hK hp with g | g <;> omega
set_option maxRecDepth 100000 in
set_option maxHeartbeats 16000000 in
theorem seeks_any (A : Option Addr) (m c : Nat) (z : Nat → Nat → Int) (kk lv : Int) (w : World) (hm : m ≤ maxLen) (hR : IntRows w A m 3 z) :
    Calls Try.prog 4 #[.slice A m c, .int .i64 kk, .int .i64 lv] w fun e w' => e = .returned (.bool true) ∧ Below w.heap.size w w' := by
  have HR := Lib.hid hR
  unfold maxLen at hm
  obtain ⟨q, hq, hqe⟩ := key_act kk
  obtain ⟨lw, hlw, hlwe⟩ : ∃ lw : Nat, lw < 4 ∧ IntKind.i64.wrap ((IntKind.u64.wrap lv).tmod 4) = (lw : Int) := by
    obtain ⟨z, h1, h2⟩ := mod_u lv 4 (by decide) (by decide)
    exact ⟨z, by omega, by rw [i64_is]; exact h1⟩
  clear hR
  go_enter Try.func4, Try.ntmps4
  go_wp2_with fail
  refine (awake_any w).mono ?_
  rintro e w1 ⟨rfl, hb⟩
  have S0 := Lib.hid ((Own.none w).below hb)
  clear hb
  go_wp2_with fail
  refine (start_any w1).mono ?_
  rintro e w2 ⟨g, gs, V0, rfl, hX⟩
  have S1 := Lib.hid (show Own w No w2 (aWd g gs S3 V0 (.slice none 0 0) [] (.slice none 0 0) [] 4 * Asn.emp) from by
    have := own_join S0.out hX
    rw [mul_emp] at this
    exact this)
  clear hX S0
  go_upto_block 0 with fail
  go_cut [] (fun wx => ∃ (S : Sf) (V : Nat → Value) (vl : Value) (l : List Ent) (vp : Value) (ps : List Du) (n top : Nat) (ch : Nat → List Nat), Hid (Wx g gs w wx S V vl l vp ps n top ch))
  case first =>
    go_wp2_with fail
    go_loopw [8] (fun i wr => ∃ (k : Nat) (S : Sf) (V : Nat → Value) (vl : Value) (l : List Ent) (vp : Value) (ps : List Du) (n top : Nat) (ch : Nat → List Nat), k ≤ m ∧ k ≤ 60 ∧ i = .int .i64 k ∧ Hid (Wx g gs w wr S V vl l vp ps n top ch)) (fun i _ => 60 - (intOf i).toNat)
    case atStart => exact ⟨0, S3, V0, _, [], _, [], 4, 0, fun _ => [3], by omega, by omega, rfl, Lib.hid ⟨WS.of wg_start (by decide), by omega, S1.out⟩⟩
    case round =>
      clear S1
      obtain ⟨k, S, V, vl, l, vp, ps, n, top, ch, hkm, hk6, rfl, HX⟩ := hrel
      have hnn := HX.out.nn
      by_cases hlt : k < m ∧ k < 60
      · obtain ⟨hlt, hlt2⟩ := hlt
        obtain ⟨b, o, rfl, hbl, hc, hz⟩ := HR.out.at k hlt wr HX.out.own.bel
        have d0 : wr.cell? ⟨b, o + k * 3, none⟩ = some (.int .i64 (z k 0)) := hc 0 (by decide)
        have d1 : wr.cell? ⟨b, o + k * 3 + 1, none⟩ = some (.int .i64 (z k 1)) := hc 1 (by decide)
        have d2 : wr.cell? ⟨b, o + k * 3 + 2, none⟩ = some (.int .i64 (z k 2)) := hc 2 (by decide)
        obtain ⟨-, c3⟩ := aWd_three HX.out.own
        have hw8 : IntKind.i64.wrap ((n : Int) + 8) = (n : Int) + 8 := by rw [i64_is, IntWalk.wrap64_in _ ⟨by omega, by omega⟩]
        have hltI : (k : Int) < (m : Int) := by omega
        have hlt2I : (k : Int) < 60 := by omega
        clear hc hz
        by_cases hn8 : n + 8 < 256
        · have hn8I : ¬ (256 : Int) ≤ (n : Int) + 8 := by omega
          have HDo := Lib.hid (do_any g gs S V vl l vp ps n top ch (z k 0) (z k 1) (z k 2) HX.out.ws hn8 w wr Asn.emp HX.out.own)
          generalize z k 0 = z0 at *
          generalize z k 1 = z1 at *
          generalize z k 2 = z2 at *
          clear HX
          go_wp2_with fail
          refine HDo.out.mono ?_
          rintro e w3 ⟨rfl, B, ⟨S', V', vl', l', vp', ps', n', top', ch', h1, h2, rfl⟩, hX⟩
          have HX := Lib.hid (show Wx g gs w w3 S' V' vl' l' vp' ps' n' top' ch' from ⟨h1, by omega, hX⟩)
          clear hX HDo h1 d0 d1 d2 c3
          go_wp2_with fail
          go_round
          case rel => exact ⟨k + 1, S', V', vl', l', vp', ps', n', top', ch', by omega, by omega, by go_num, HX⟩
          case measure => simp only [intOf]; omega
        · have hn8I : (256 : Int) ≤ (n : Int) + 8 := by omega
          go_wp2_with fail
          go_returns
          exact ⟨rfl, HX.out.own.bel⟩
      · by_cases hlt1 : k < m
        · have hltI : (k : Int) < (m : Int) := by omega
          obtain rfl : k = 60 := by omega
          go_wp2_with fail
          go_meet
          case rel => exact ⟨S, V, vl, l, vp, ps, n, top, ch, HX⟩
        · have hltI : ¬ (k : Int) < (m : Int) := by omega
          go_wp2_with fail
          go_meet
          case rel => exact ⟨S, V, vl, l, vp, ps, n, top, ch, HX⟩
  case rest =>
    obtain ⟨S, V, vl, l, vp, ps, n, top, ch, HX⟩ := hcut
    clear S1 V0
    have HW := Lib.hid HX.out.ws
    have hnn := HX.out.nn
    have S1 := Lib.hid HX.out.own
    clear HX
    have htop := HW.out.wg.four
    have hnx := HW.out.wg.nx
    go_wp2_with fail
    refine (key_any q wc (by omega) (by omega)).mono ?_
    rintro e w4 ⟨rfl, hX⟩
    have S2 := Lib.hid (S1.out.below hX)
    clear hX S1
    have hkl : (keyZ q).length = 9 := rfl
    generalize hkz : keyZ q = key at *
    clear hkz
    go_wp2_with fail
    refine (pages_any g gs S V vl l vp (ps.map du) n HW.out.sm hnn w w4 _ S2.out).mono ?_
    rintro e w5 ⟨PA, pc, L, rfl, hpg, hX⟩
    have HPG := Lib.hid hpg
    clear hpg S2
    have hv := (hX.re (show _ = Asn.vec 52 7 (.slice PA n pc) n (ndL L) * (aLs L * (aWd g gs S V vl l vp (ps.map du) n * Asn.emp)) by unfold aPg; ac_rfl)).vec
    rcases hv.forms with ⟨-, hz⟩ | ⟨pb, cap, he, -, -, -⟩
    · exact absurd hz (by omega)
    obtain ⟨rfl, -, rfl⟩ : PA = some ⟨pb, 0, none⟩ ∧ True ∧ pc = cap := by
      injection he with h1 h2 h3
      exact ⟨h1, trivial, h3⟩
    have S3 := Lib.hid (hX.alloc #[] 3)
    clear hX hv he
    go_upto_region 15 with fail
    obtain ⟨g12, hgz⟩ : ∃ g, g = w5.heap.size := ⟨_, rfl⟩
    rw [← hgz] at S3 ⊢
    clear hgz
    generalize World.alloc w5 _ = w6 at *
    obtain ⟨R, hR⟩ : ∃ R : Asn, R = aWd g gs S V vl l vp (ps.map du) n * Asn.emp := ⟨_, rfl⟩
    have S4 := Lib.hid ((S3.out.imp (Imp.l (blk_vec (cs := []) 0 1 rfl (by decide)))).re (show _ = aPg (some ⟨pb, 0, none⟩) n pc L * (Asn.vec 3 1 (.slice (some ⟨g12, 0, none⟩) 0 0) 0 (ints (wantL S ch key top 0)) * R) by rw [hR]; unfold wantL ints; simp only [List.range_zero, List.map_nil]; ac_rfl))
    clear S3
    go_wp2_with fail
    clear HR
    go_loopw [11, 12] (fun at_ wt wr => ∃ (j p : Nat) (WA : Option Addr) (wd : Nat), at_ = .int .i64 p ∧ wt = .slice WA j wd ∧ j ≤ top ∧ (j = 0 ∨ lw ≤ top - j) ∧ Hid (∃ X l0 Y, Pos S 2 (top - j) (ch (top - j)) X l0 p Y ∧ le l0 key = true) ∧
      Hid (Own w No wr (aPg (some ⟨pb, 0, none⟩) n pc L * (Asn.vec 3 1 (.slice WA j wd) j (ints (wantL S ch key top j)) * R)))) (fun _ wt _ => 6 - wlen wt)
    case atStart => exact ⟨0, 3, _, _, rfl, rfl, by omega, Or.inl rfl, Lib.hid ⟨[], low, [], HW.out.wg.tree.pos, low_le _ hkl⟩, S4⟩
    case round =>
      clear S4
      obtain ⟨j, p, WA, wd, rfl, rfl, hj, hjl, HPo, S4⟩ := hrel
      obtain ⟨lv2, hlv2⟩ : ∃ L, L = top - j := ⟨_, rfl⟩
      rw [← hlv2] at HPo hjl
      have hlt2 : lv2 ≤ top := by omega
      have HLv := Lib.hid (HW.out.wg.tree.lvl lv2 hlt2)
      go_upto_block 4 with fail
      go_cut [11] (fun at2 wx => at2 = .int .i64 ((fnd S key (ch lv2) : Nat) : Int) ∧ Hid (Own w No wx (aPg (some ⟨pb, 0, none⟩) n pc L * (Asn.vec 3 1 (.slice WA j wd) j (ints (wantL S ch key top j)) * R))))
      case first =>
        go_wp2_with fail
        go_loopw [11] (fun at_ wr => ∃ (p : Nat), at_ = .int .i64 p ∧ Hid (∃ X l0 Y, Pos S 2 lv2 (ch lv2) X l0 p Y ∧ le l0 key = true) ∧ Hid (Own w No wr (aPg (some ⟨pb, 0, none⟩) n pc L * (Asn.vec 3 1 (.slice WA j wd) j (ints (wantL S ch key top j)) * R)))) (fun at_ _ => (ch lv2).length - (ch lv2).idxOf (intOf at_).toNat)
        case atStart => exact ⟨p, rfl, HPo, S4⟩
        case round =>
          clear S4 HPo
          obtain ⟨p, rfl, HPo, S4⟩ := hrel
          obtain ⟨X, l0, Y, hpos, hle⟩ := HPo.out
          have hpn := HW.out.wg.inN hlt2 hpos.mem
          have hpI : (p : Int) < (n : Int) := by omega
          obtain ⟨y, hy, hye⟩ := HPG.out.at hpn
          obtain ⟨⟨q0, q1, q2, q3, q4, q5, q6⟩, -⟩ := pg_seven S4.out p y hy
          rw [hye] at q3 q4 q5
          have hsm := ok_small hpos.ok
          clear q0 q1 q2 q6
          have hcv : cov (S p) key = (!(S p).has || lt key (S p).high) := rfl
          by_cases hc : cov (S p) key = true
          · have hfe := step_here HLv.out hpos hkl hle hc
            have HF := Lib.hid hfe
            clear hfe
            cases hh : (S p).has with
            | false =>
              rw [hh] at q3
              clear hcv hc hsm HPo hpos
              go_wp2_with fail
              go_meet
              case rel => exact ⟨by rw [HF.out], S4⟩
            | true =>
              rw [hh] at q3
              have hlt : lt key (S p).high = true := by rw [hcv, hh] at hc; simpa using hc
              have hcn := cmp_neg key (S p).high
              rw [hlt] at hcn
              have hcn2 : Lib.compareBytes key (S p).high < 0 := of_decide_eq_true hcn
              have HTx := Lib.hid (fun W => texts_any key (S p).high W (by omega) hsm.hi)
              generalize Lib.compareBytes key (S p).high = cb at *
              clear hcv hc hsm HPo hpos hcn hlt
              go_wp2_with fail
              refine (HTx.out _).mono ?_
              rintro e w7 ⟨rfl, nn, rfl⟩
              have S5 := Lib.hid (S4.out.drewN nn)
              clear S4 q3 q4 q5 HTx
              generalize World.drewN _ nn = w8 at *
              go_wp2_with fail
              go_meet
              case rel => exact ⟨by rw [HF.out], S5⟩
          · have hc' : cov (S p) key = false := by simpa using hc
            obtain ⟨hh, hge, hr0, b, Y', rfl, hrb, hpos2⟩ := step_right hpos hc'
            rw [hh] at q3
            rw [hrb] at q5
            have hb0 : (b : Int) ≠ 0 := by rw [← hrb]; exact hr0
            have hcn := cmp_ge key (S p).high
            rw [show lt key (S p).high = false from by rw [hcv, hh] at hc'; simpa using hc'] at hcn
            have hcn2 : 0 ≤ Lib.compareBytes key (S p).high := of_decide_eq_true hcn
            have HTx := Lib.hid (fun W => texts_any key (S p).high W (by omega) hsm.hi)
            have hnd := HW.out.wg.tree.nod lv2 hlt2
            have HP2 : Hid (∃ X l0 Y, Pos S 2 lv2 (ch lv2) X l0 b Y ∧ le l0 key = true) := Lib.hid ⟨_, _, _, hpos2, hge⟩
            have hms : (ch lv2).length - (ch lv2).idxOf b < (ch lv2).length - (ch lv2).idxOf p := by
              have e1 := hpos.eq
              have e2 := hpos2.eq
              have i1 : (ch lv2).idxOf p = X.length := by rw [e1]; rw [e1] at hnd; exact idx_of hnd
              have i2 : (ch lv2).idxOf b = (X ++ [p]).length := by rw [e2]; rw [e2] at hnd; exact idx_of hnd
              have i3 : (ch lv2).length = X.length + (1 + (1 + Y'.length)) := by rw [e1]; simp only [List.length_append, List.length_cons]; omega
              rw [i1, i2, i3, List.length_append, List.length_singleton]
              omega
            generalize Lib.compareBytes key (S p).high = cb at *
            clear hcv hc hc' hsm HPo hpos hcn hpos2 hnd hge hh hr0
            go_wp2_with fail
            refine (HTx.out _).mono ?_
            rintro e w7 ⟨rfl, nn, rfl⟩
            have S5 := Lib.hid (S4.out.drewN nn)
            obtain ⟨⟨-, -, -, -, -, q5', -⟩, -⟩ := pg_seven S5.out p y hy
            rw [hye, hrb] at q5'
            clear S4 q3 q4 q5 HTx hrb
            generalize World.drewN _ nn = w8 at *
            go_wp2_with fail
            go_round
            case rel => exact ⟨b, rfl, HP2, S5⟩
            case measure => simp only [intOf, Int.toNat_natCast]; exact hms
      case rest =>
        obtain ⟨rfl, S5⟩ := hcut
        clear S4 HPo
        obtain ⟨X, l0, Y, hpos, hle, hcv, -⟩ := HLv.out.find key (low_le _ hkl)
        obtain ⟨p2, hp2⟩ : ∃ p, p = fnd S key (ch lv2) := ⟨_, rfl⟩
        have hw2 : wantL S ch key top (j + 1) = wantL S ch key top j ++ [(p2 : Int)] := by rw [wantL_snoc, hp2, hlv2]
        rw [← hp2] at hpos hcv ⊢
        clear hp2
        have hpn := HW.out.wg.inN hlt2 hpos.mem
        have hpI : (p2 : Int) < (n : Int) := by omega
        obtain ⟨y, hy, hye⟩ := HPG.out.at hpn
        have hlev := hpos.ok.lv
        have S6 := Lib.hid ((S5.out.alloc #[.int .i64 p2] 3).re (show _ = Asn.vec 3 1 (.slice WA j wd) j (ints (wantL S ch key top j)) * (Asn.blk wc.heap.size 3 #[.int .i64 p2] * (aPg (some ⟨pb, 0, none⟩) n pc L * R)) by ac_rfl))
        have CX : Hid (Src Try.prog 1 50 (.slice (some ⟨wc.heap.size, 0, none⟩) 1 1) 1 [.int .i64 p2] (wc.alloc (.cells #[.int .i64 p2] 3))) := Lib.hid (src_blk Try.underlying50 (Blk.new wc #[.int .i64 p2] 3) rfl (by intro u hu; simp at hu; subst hu; rfl))
        clear S5
        go_wp2_with (with_reducible refine wpList_append_vec rfl (.tmp 86) (.tmp 88) 50 50 rfl 3 _ 1 8 Try.underlying50 infoInt ?c1 ?c2 (.slice WA j wd) j (ints (wantL S ch key top j)) ?c7 S6.out.vec (.slice (some ⟨wc.heap.size, 0, none⟩) 1 1) ?c8 1 _ CX.out ?c3 ?c4 ?_)
        case c1 => rfl
        case c2 => decide
        case c3 => unfold maxLen; omega
        case c4 => omega
        try (case c7 => rfl)
        try (case c8 => rfl)
        intro v' w8 hv hc hf
        have S7 := Lib.hid (S6.out.app hv hc hf)
        obtain ⟨A5, c5, rfl⟩ := hv.slice
        have S8 := Lib.hid ((S7.out.re (show _ = Asn.blk wc.heap.size 3 #[.int .i64 p2] * (aPg (some ⟨pb, 0, none⟩) n pc L * (Asn.vec 3 1 (.slice A5 (j + 1) c5) (j + 1) (ints (wantL S ch key top (j + 1))) * R)) by rw [hw2]; unfold ints; rw [List.map_append]; ac_rfl)).right)
        clear S6 S7 CX hv hc hf hw2
        obtain ⟨⟨q0, q1, q2, q3, q4, q5, q6⟩, hrow⟩ := pg_seven S8.out p2 y hy
        rw [hye] at q0 q1 q2 q3 q4 q5 hrow
        rw [hlev] at q1
        by_cases hbr : lv2 ≤ lw
        · have hbrI : (lv2 : Int) ≤ (lw : Int) := by omega
          clear q0 q2 q3 q4 q5 q6 hrow
          have S9 := Lib.hid (S8.out.re (show _ = aWd g gs S V vl l vp (ps.map du) n * (aPg (some ⟨pb, 0, none⟩) n pc L * Asn.vec 3 1 (.slice A5 (j + 1) c5) (j + 1) (ints (wantL S ch key top (j + 1)))) by rw [hR, mul_emp]; ac_rfl))
          obtain ⟨c0, -⟩ := aWd_three S9.out
          have HSk := Lib.hid (Seek_any gs S V HW.out.sm HW.out.lo 3 lw key w w8 (Asn.blk g 30 #[.pointer (some ⟨gs, 0, none⟩), vl, vp, .int .i64 n] * (Asn.vec 44 3 vl l.length (cells3 l) * (Asn.vec 79 4 vp (ps.map du).length (poL (ps.map du)) * (aPg (some ⟨pb, 0, none⟩) n pc L * Asn.vec 3 1 (.slice A5 (j + 1) c5) (j + 1) (ints (wantL S ch key top (j + 1))))))) (S9.out.re (by unfold aWd sPtr; ac_rfl)))
          obtain ⟨y3, hy3, hye3⟩ := HPG.out.at (show 3 < n by omega)
          have h3l : y3.nd.level = (top : Int) := by rw [hye3]; exact HW.out.wg.root3.1
          have h3n : (3 : Int) < (n : Int) := by omega
          unfold pgs at HSk
          by_cases hlt : lw ≤ top
          · have hj2 : top - lw + 1 = j + 1 := by omega
            obtain ⟨h1, h2⟩ := HW.out.wg.pages key hkl lw hlt
            rw [hj2] at h2
            have h2' : pagesR S 3 lw key = wantL S ch key top (j + 1) := h2
            rw [h1, h2', wantL_len] at HSk
            have hvis : vis S 256 3 = ⟨255, 0, 3, S 3⟩ := by
              rw [vis_succ, at_page _ (by omega) (by omega)]
              rfl
            have HHe := Lib.hid (fun W C h => Height_any gs S V HW.out.sm HW.out.lo 3 w W C h)
            rw [hvis] at HHe
            have HL3 := Lib.hid HW.out.wg.root3.1
            unfold pgs at HHe
            dsimp only at HHe
            clear S8 h1 h2 h2' hvis hlev hjl HPG
            have hnl : ¬ (top : Int) < (lw : Int) := by omega
            go_wp2_with fail
            refine HSk.out.mono ?_
            rintro e w9 ⟨v, rfl, hX⟩
            have hv1 := hX.vec
            have hv2 := (hX.re (show _ = Asn.vec 3 1 (.slice A5 (j + 1) c5) (j + 1) (ints (wantL S ch key top (j + 1))) * (Asn.vec 3 1 v (j + 1) (ints (wantL S ch key top (j + 1))) * (aSf gs S V * (Asn.blk g 30 #[.pointer (some ⟨gs, 0, none⟩), vl, vp, .int .i64 n] * (Asn.vec 44 3 vl l.length (cells3 l) * (Asn.vec 79 4 vp (ps.map du).length (poL (ps.map du)) * aPg (some ⟨pb, 0, none⟩) n pc L))))) by ac_rfl)).vec
            rcases hv1.forms with ⟨-, hz⟩ | ⟨gb, gcap, rfl, -, -, -⟩
            · exact absurd hz (by omega)
            rcases hv2.forms with ⟨-, hz⟩ | ⟨wb, wcap, he, -, -, -⟩
            · exact absurd hz (by omega)
            obtain ⟨rfl, rfl⟩ : A5 = some ⟨wb, 0, none⟩ ∧ c5 = wcap := by
              injection he with h1 h2 h3
              exact ⟨h1, h3⟩
            have S10 := Lib.hid (hX.re (show _ = Asn.vec 3 1 (.slice (some ⟨gb, 0, none⟩) (j + 1) gcap) (j + 1) (ints (wantL S ch key top (j + 1))) * (Asn.vec 3 1 (.slice (some ⟨wb, 0, none⟩) (j + 1) c5) (j + 1) (ints (wantL S ch key top (j + 1))) * (aSf gs S V * (Asn.blk g 30 #[.pointer (some ⟨gs, 0, none⟩), vl, vp, .int .i64 n] * (Asn.vec 44 3 vl l.length (cells3 l) * (Asn.vec 79 4 vp (ps.map du).length (poL (ps.map du)) * aPg (some ⟨pb, 0, none⟩) n pc L))))) by ac_rfl))
            obtain ⟨⟨-, t1, -⟩, -⟩ := pg_seven (S10.out.re (show _ = aPg (some ⟨pb, 0, none⟩) n pc L * (Asn.vec 3 1 (.slice (some ⟨gb, 0, none⟩) (j + 1) gcap) (j + 1) (ints (wantL S ch key top (j + 1))) * (Asn.vec 3 1 (.slice (some ⟨wb, 0, none⟩) (j + 1) c5) (j + 1) (ints (wantL S ch key top (j + 1))) * (aSf gs S V * (Asn.blk g 30 #[.pointer (some ⟨gs, 0, none⟩), vl, vp, .int .i64 n] * (Asn.vec 44 3 vl l.length (cells3 l) * Asn.vec 79 4 vp (ps.map du).length (poL (ps.map du))))))) by ac_rfl)) 3 y3 hy3
            rw [h3l] at t1
            clear hX HSk S9 hv1 hv2 he c0 q1 hbrI
            go_wp2_with fail
            clear t1
            go_loopw [17] (fun i wr => ∃ k : Nat, k ≤ j + 1 ∧ i = .int .i64 k ∧ Hid (Own w No wr (Asn.vec 3 1 (.slice (some ⟨gb, 0, none⟩) (j + 1) gcap) (j + 1) (ints (wantL S ch key top (j + 1))) * (Asn.vec 3 1 (.slice (some ⟨wb, 0, none⟩) (j + 1) c5) (j + 1) (ints (wantL S ch key top (j + 1))) * (aSf gs S V * (Asn.blk g 30 #[.pointer (some ⟨gs, 0, none⟩), vl, vp, .int .i64 n] * (Asn.vec 44 3 vl l.length (cells3 l) * (Asn.vec 79 4 vp (ps.map du).length (poL (ps.map du)) * aPg (some ⟨pb, 0, none⟩) n pc L)))))))) (fun i _ => j + 1 - (intOf i).toNat)
            case atStart => exact ⟨0, by omega, rfl, S10⟩
            case round =>
              clear S10
              obtain ⟨k, hk, rfl, S10⟩ := hrel
              by_cases hlt2 : k < j + 1
              · obtain ⟨u, hu⟩ : ∃ u, (wantL S ch key top (j + 1))[k]? = some u := ⟨_, List.getElem?_eq_getElem (by rw [wantL_len]; omega)⟩
                have e1 := S10.out.vec.cell (j := k) (u := .int .i64 u) (by unfold ints; rw [List.getElem?_map, hu]; rfl)
                have e2 := S10.out.right.vec.cell (j := k) (u := .int .i64 u) (by unfold ints; rw [List.getElem?_map, hu]; rfl)
                have hkI : (k : Int) < (j : Int) + 1 := by omega
                clear hu
                go_wp2_with fail
                go_quiet (fail)
                have S11 := Lib.hid (S10.out.drewN nq)
                clear S10 e1 e2
                generalize wr.drewN nq = w12 at *
                go_wp2_with fail
                go_round
                case rel => exact ⟨k + 1, by omega, by go_num, S11⟩
                case measure => simp only [intOf]; omega
              · obtain rfl : k = j + 1 := by omega
                have S11 := Lib.hid (S10.out.re (show _ = aSf gs S V * (Asn.blk g 30 #[.pointer (some ⟨gs, 0, none⟩), vl, vp, .int .i64 n] * (Asn.vec 44 3 vl l.length (cells3 l) * (Asn.vec 79 4 vp (ps.map du).length (poL (ps.map du)) * (aPg (some ⟨pb, 0, none⟩) n pc L * (Asn.vec 3 1 (.slice (some ⟨gb, 0, none⟩) (j + 1) gcap) (j + 1) (ints (wantL S ch key top (j + 1))) * Asn.vec 3 1 (.slice (some ⟨wb, 0, none⟩) (j + 1) c5) (j + 1) (ints (wantL S ch key top (j + 1)))))))) by ac_rfl))
                clear S10
                have c0 := (S11.out.has (Has.r (Has.l (has_blk g _ _)))).cell 0
                rw [show (#[Value.pointer (some ⟨gs, 0, none⟩), vl, vp, .int .i64 (n : Int)] : Array Value)[0]? = some (.pointer (some ⟨gs, 0, none⟩)) from rfl] at c0
                go_wp2_with fail
                refine (HHe.out _ _ S11.out).mono ?_
                rintro er w13 ⟨zz, rfl, hzz, hX⟩
                have hz2 := hzz trivial (by rw [HL3.out]; omega) (by rw [HL3.out]; omega)
                rw [HL3.out] at hz2
                subst hz2
                have HLe := Lib.hid (levels_any pb n pc L y3 hy3 (by omega) top htop h3l w w13 _ (hX.re (show _ = aPg (some ⟨pb, 0, none⟩) n pc L * (aSf gs S V * (Asn.blk g 30 #[.pointer (some ⟨gs, 0, none⟩), vl, vp, .int .i64 n] * (Asn.vec 44 3 vl l.length (cells3 l) * (Asn.vec 79 4 vp (ps.map du).length (poL (ps.map du)) * (Asn.vec 3 1 (.slice (some ⟨gb, 0, none⟩) (j + 1) gcap) (j + 1) (ints (wantL S ch key top (j + 1))) * Asn.vec 3 1 (.slice (some ⟨wb, 0, none⟩) (j + 1) c5) (j + 1) (ints (wantL S ch key top (j + 1)))))))) by ac_rfl)))
                clear hzz hX c0 S11 HHe
                go_wp2_with fail
                refine HLe.out.mono ?_
                rintro er w14 ⟨A6, d6, rfl, hX⟩
                have S12 := Lib.hid hX
                clear hX HLe
                go_wp2_with fail
                go_returns
                exact ⟨rfl, S12.out.bel⟩
          · obtain ⟨h1, h2⟩ := HW.out.wg.none key hkl lw (by omega)
            rw [h1, h2, List.length_nil] at HSk
            have hnl : (top : Int) < (lw : Int) := by omega
            clear h1 h2 S8 hlev hjl HPG
            go_wp2_with fail
            refine HSk.out.mono ?_
            rintro er w9 ⟨v, rfl, hX⟩
            obtain ⟨A6, d6, rfl⟩ := hX.vec.slice
            obtain ⟨⟨-, t1, -⟩, -⟩ := pg_seven (hX.re (show _ = aPg (some ⟨pb, 0, none⟩) n pc L * (Asn.vec 3 1 (.slice A6 0 d6) 0 (ints []) * (aSf gs S V * (Asn.blk g 30 #[.pointer (some ⟨gs, 0, none⟩), vl, vp, .int .i64 n] * (Asn.vec 44 3 vl l.length (cells3 l) * (Asn.vec 79 4 vp (ps.map du).length (poL (ps.map du)) * Asn.vec 3 1 (.slice A5 (j + 1) c5) (j + 1) (ints (wantL S ch key top (j + 1)))))))) by ac_rfl)) 3 y3 hy3
            rw [h3l] at t1
            have S10 := Lib.hid hX
            clear hX HSk S9 c0 q1 hbrI
            go_wp2_with fail
            go_returns
            exact ⟨rfl, S10.out.bel⟩
        · have hbrI : ¬ (lv2 : Int) ≤ (lw : Int) := by omega
          obtain ⟨l3, rfl⟩ : ∃ k, lv2 = k + 1 := ⟨lv2 - 1, by omega⟩
          obtain ⟨i, e, A', d, B', hi1, hi2, hi3, hi4, hi5, hi6⟩ := HW.out.wg.tree.down (L := l3) (by omega) hpos hle
          obtain ⟨EA, ec, hyv⟩ := hrow.slice
          rw [hyv] at q6 hrow
          obtain ⟨eb, eo, rfl, -, a0, a1, a2⟩ := hrow.at hi2
          have hil : (i : Int) < ((S p2).list.length : Int) := by have := (List.getElem?_eq_some_iff.1 hi2).1; omega
          have hig : ¬ (i : Int) < 0 := by omega
          have HFi := Lib.hid (fun W h => refFind_any (S p2) key (.agg (nodCells (S p2) (.slice (some ⟨eb, eo, none⟩) (S p2).list.length ec))) W h (ok_small hpos.ok) (by omega))
          rw [hi1] at HFi
          rw [← hlev] at q1
          rw [← hlev] at hbrI
          clear hlev
          unfold nodCells at HFi
          go_wp2_with fail
          refine (HFi.out _ ⟨_, rfl, hrow⟩).mono ?_
          rintro er w9 ⟨rfl, hb⟩
          have S9 := Lib.hid (S8.out.below hb)
          have hrow' := hrow.keep hb
          clear hb S8 hrow q0 q1 q2 q3 q4 q5 q6 a0 a1 a2 HFi
          obtain ⟨⟨q0, q1, q2, q3, q4, q5, q6⟩, -⟩ := pg_seven S9.out p2 y hy
          rw [hyv] at q6
          clear q0 q1 q2 q3 q4 q5
          obtain ⟨a0, a1, a2⟩ := hrow'.at' hi2
          have HCh := Lib.hid (fun W => Child_any e W)
          unfold entCells at HCh
          rw [hi5] at HCh
          have HP2 : Hid (∃ X l0 Y, Pos S 2 (top - (j + 1)) (ch (top - (j + 1))) X l0 d Y ∧ le l0 key = true) := Lib.hid (by
            rw [show top - (j + 1) = l3 by omega]
            exact ⟨_, _, _, hi4, hi3⟩)
          clear hrow' hi1 hi4 hpos hle hcv
          go_wp2_with fail
          refine (HCh.out _).mono ?_
          rintro er w10 ⟨rfl, hb⟩
          have S10 := Lib.hid (S9.out.below hb)
          clear hb S9 HCh q6 a0 a1 a2
          go_wp2_with fail
          go_round
          case rel => exact ⟨j + 1, d, A5, c5, rfl, rfl, by omega, Or.inr (by omega), HP2, S10⟩
          case measure => simp only [wlen]; omega
end Go.Proofs.Yteiiogaopgfpfaa.Bk
