/- Texts of ours, joined. -/
import Derived.Test.YteiiogaopgfpfaaBmW
import Derived.Test.YteiiogaopgfpfaaBmX
import Derived.WalkKit
import Derived.ProofKit
import Derived.OpenShut
import Derived.Below
import Derived.Carry
import Derived.ChangeSame
import Derived.JoinedCond
import Derived.Deep.DeepHandedRow
import Derived.Lib.LaidTab
import Derived.Lib.SmallJoins
import Derived.Deep.Slices
import Derived.Deep.Fields
import Derived.Test.YteiiogaopgfpfaaRow
import Derived.ChangeArms

-- joined
section
namespace Go.Proofs.Yteiiogaopgfpfaa.Bk
open Go.ChangeShapes Go.WideShapes Go.ChangeAt Go.RowKit Go.PlainAid Aid Nt Nd Tr
open Ky (keyZ key_any)
set_option linter.unusedVariables false
set_option linter.unusedSimpArgs false
set_option linter.unusedSectionVars false
/-- A deed, and that the tree is sound behind it. -/
def fd (key : By) (l : List Ent) : Bool := decide (key ∈ l.map Ent.key)
theorem fd_next {key : By} {l : List Ent} {j : Nat} {x : Ent} (h : l[j]? = some x) : fd key (l.take (j + 1)) = (fd key (l.take j) || decide (x.key = key)) := by
  unfold fd
  rw [List.take_add_one, h, Option.toList_some, List.map_append, List.map_singleton]
  rw [← Bool.decide_or]
  apply decide_eq_decide.2
  rw [List.mem_append, List.mem_singleton]
  exact ⟨fun h => h.imp_right Eq.symm, fun h => h.imp_right Eq.symm⟩
set_option maxRecDepth 100000 in
set_option maxHeartbeats 16000000 in
theorem map_any (A : Option Addr) (m c : Nat) (z : Nat → Nat → Int) (w : World) (hm : m ≤ maxLen) (hR : IntRows w A m 3 z) :
    Calls Try.prog 3 #[.slice A m c] w fun e w' => e = .returned (.bool true) ∧ Below w.heap.size w w' := by
  have HR := Lib.hid hR
  unfold maxLen at hm
  clear hR
  go_enter Try.func3, Try.ntmps3
  go_wp2_with fail
  refine (awake_any w).mono ?_
  rintro e w1 ⟨rfl, hb⟩
  have S0 := Lib.hid ((Own.none w).below hb)
  clear hb
  go_wp2_with fail
  refine (start_any w1).mono ?_
  rintro e w2 ⟨g, gs, V0, rfl, hX⟩
  have S1 := Lib.hid (show Own w No w2 (aWd g gs S3 V0 (.slice none 0 0) [] (.slice none 0 0) [] 4 * Asn.emp) from by
    have := own_join S0.out hX
    rw [mul_emp] at this
    exact this)
  clear hX S0
  go_wp2_with fail
  go_loopw [4] (fun i wr => ∃ (k : Nat) (S : Sf) (V : Nat → Value) (vl : Value) (l : List Ent) (vp : Value) (ps : List Du) (n top : Nat) (ch : Nat → List Nat), k ≤ m ∧ k ≤ 60 ∧ i = .int .i64 k ∧ Hid (Wx g gs w wr S V vl l vp ps n top ch)) (fun i _ => 60 - (intOf i).toNat)
  case atStart => exact ⟨0, S3, V0, _, [], _, [], 4, 0, fun _ => [3], by omega, by omega, rfl, Lib.hid ⟨WS.of wg_start (by decide), by omega, S1.out⟩⟩
  case round =>
    clear S1
    obtain ⟨k, S, V, vl, l, vp, ps, n, top, ch, hkm, hk6, rfl, HX⟩ := hrel
    have hnn := HX.out.nn
    by_cases hlt : k < m ∧ k < 60
    · obtain ⟨hlt, hlt2⟩ := hlt
      obtain ⟨b, o, rfl, hbl, hc, hz⟩ := HR.out.at k hlt wr HX.out.own.bel
      have d0 : wr.cell? ⟨b, o + k * 3, none⟩ = some (.int .i64 (z k 0)) := hc 0 (by decide)
      have d1 : wr.cell? ⟨b, o + k * 3 + 1, none⟩ = some (.int .i64 (z k 1)) := hc 1 (by decide)
      have d2 : wr.cell? ⟨b, o + k * 3 + 2, none⟩ = some (.int .i64 (z k 2)) := hc 2 (by decide)
      have HK1 : Hid (∀ W D, Own w No W D → W.cell? ⟨b, o + k * 3 + 1, none⟩ = some (.int .i64 (z k 1))) := Lib.hid (fun W D h => by
        obtain ⟨b', o', e', -, hc', -⟩ := HR.out.at k hlt W h.bel
        cases e'
        exact hc' 1 (by decide))
      obtain ⟨-, c3⟩ := aWd_three HX.out.own
      have hw8 : IntKind.i64.wrap ((n : Int) + 8) = (n : Int) + 8 := by rw [i64_is, IntWalk.wrap64_in _ ⟨by omega, by omega⟩]
      have hltI : (k : Int) < (m : Int) := by omega
      have hlt2I : (k : Int) < 60 := by omega
      clear hc hz
      by_cases hn8 : n + 8 < 256
      · have hn8I : ¬ (256 : Int) ≤ (n : Int) + 8 := by omega
        have HDo := Lib.hid (do_any g gs S V vl l vp ps n top ch (z k 0) (z k 1) (z k 2) HX.out.ws hn8 w wr Asn.emp HX.out.own)
        obtain ⟨q, hq, hqe⟩ := key_act (z k 1)
        generalize z k 0 = z0 at *
        generalize z k 1 = z1 at *
        generalize z k 2 = z2 at *
        clear HX
        go_wp2_with fail
        refine HDo.out.mono ?_
        rintro e w3 ⟨rfl, B, ⟨S, V, vl, l, vp, ps, n', top, ch, h1, h2, rfl⟩, hX⟩
        have HW := Lib.hid h1
        have hn2 : n' ≤ 256 := by omega
        have hnx := h1.wg.nx
        have S2 := Lib.hid hX
        clear hX HDo h1 d0 d1 d2 c3 hw8 hn8 hn8I h2 hnn
        go_wp2_with fail
        refine (pages_any g gs S V vl l vp (ps.map du) n' HW.out.sm hn2 w w3 _ S2.out).mono ?_
        rintro e w5 ⟨PA, pc, L, rfl, hpg, hX⟩
        have hv := (hX.re (show _ = Asn.vec 52 7 (.slice PA n' pc) n' (ndL L) * (aLs L * (aWd g gs S V vl l vp (ps.map du) n' * Asn.emp)) by unfold aPg; ac_rfl)).vec
        rcases hv.forms with ⟨-, hz⟩ | ⟨pb, cap, he, -, -, -⟩
        · exact absurd hz (by omega)
        obtain ⟨rfl, -, rfl⟩ : PA = some ⟨pb, 0, none⟩ ∧ True ∧ pc = cap := by
          injection he with h1 h2 h3
          exact ⟨h1, trivial, h3⟩
        have HSo := Lib.hid (sound_any pb n' pc L S l ps top ch HW.out hn2 hpg w w5 _ hX)
        rw [low_bytes] at HSo
        clear hX hv he hpg S2
        go_wp2_with fail
        refine HSo.out.mono ?_
        rintro e w6 ⟨rfl, hX⟩
        have S3 := Lib.hid hX.right
        clear hX HSo
        have hle : l.length ≤ 5376 := HW.out.wg.rowlen
        obtain ⟨VA, vc, hvl⟩ := ((show Own w No w6 (aWd g gs S V vl l vp (ps.map du) n' * Asn.emp) from S3.out).re (show _ = Asn.vec 44 3 vl l.length (cells3 l) * (Asn.blk g 30 #[.pointer (some ⟨gs, 0, none⟩), vl, vp, .int .i64 n'] * (Asn.vec 79 4 vp (ps.map du).length (poL (ps.map du)) * aSf gs S V)) by unfold aWd sPtr; rw [mul_emp]; ac_rfl)).vec.slice
        subst hvl
        have HLi := Lib.hid (List_any gs S V HW.out.sm HW.out.lo 3 w w6 (Asn.blk g 30 #[.pointer (some ⟨gs, 0, none⟩), .slice VA l.length vc, vp, .int .i64 n'] * (Asn.vec 44 3 (.slice VA l.length vc) l.length (cells3 l) * Asn.vec 79 4 vp (ps.map du).length (poL (ps.map du)))) (S3.out.re (by unfold aWd sPtr; rw [mul_emp]; ac_rfl)))
        rw [HW.out.wg.list] at HLi
        dsimp only at HLi
        unfold pgs at HLi
        obtain ⟨c0, -⟩ := aWd_three S3.out
        clear S3
        go_wp2_with fail
        refine HLi.out.mono ?_
        rintro e w7 ⟨v, rfl, hX⟩
        obtain ⟨R, hR⟩ : ∃ R : Asn, R = Asn.vec 79 4 vp (ps.map du).length (poL (ps.map du)) * aSf gs S V := ⟨_, rfl⟩
        have S4 := Lib.hid (hX.re (show _ = Asn.vec 44 3 v l.length (cells3 l) * (Asn.vec 44 3 (.slice VA l.length vc) l.length (cells3 l) * (Asn.blk g 30 #[.pointer (some ⟨gs, 0, none⟩), .slice VA l.length vc, vp, .int .i64 n'] * R)) by rw [hR]; ac_rfl))
        clear hX HLi c0
        have HSa := Lib.hid (Wk.same10_any l v (.slice VA l.length vc) w7 (Row3.of_vec S4.out.vec) (Row3.of_vec S4.out.right.vec))
        obtain ⟨c0, c1, -, -⟩ := post_cellsB (S4.out.has (Has.r (Has.r (Has.l (has_blk g _ _)))))
        clear c0
        go_wp2_with fail
        refine HSa.out.mono ?_
        rintro e w8 ⟨rfl, hX⟩
        have S5 := Lib.hid (S4.out.below hX.bel).right
        clear hX HSa S4 c1
        have d1 := HK1.out _ _ S5.out
        obtain ⟨gk, hgk⟩ := HW.out.wg.get (keyZ q) rfl
        have HKn := Lib.hid (fun W => key_any q W (by omega) (by omega))
        have hkl : (keyZ q).length = 9 := rfl
        obtain ⟨hg1, hg2⟩ := hgk
        have HGt := Lib.hid (fun W C h => Get_any gs S V HW.out.sm HW.out.lo 3 (keyZ q) w W C h)
        obtain ⟨bi, hbi⟩ : ∃ b, b = decide (keyZ q ∈ l.map Ent.key) := ⟨_, rfl⟩
        rw [hg1, ← hbi] at HGt
        unfold pgs at HGt
        dsimp only at HGt
        generalize keyZ q = key at *
        have HU := Lib.hid hg2
        have HBI := Lib.hid hbi
        clear hg1 hg2 hbi
        go_wp2_with fail
        refine (HKn.out _).mono ?_
        rintro e w9 ⟨rfl, hX⟩
        have S6 := Lib.hid (S5.out.below hX)
        clear hX S5 HKn d1
        obtain ⟨c0, -, -, -⟩ := post_cellsB (S6.out.has (Has.r (Has.l (has_blk g _ _))))
        go_wp2_with fail
        refine (HGt.out _ _ (S6.out.re (show _ = aSf gs S V * (Asn.vec 44 3 (.slice VA l.length vc) l.length (cells3 l) * (Asn.blk g 30 #[.pointer (some ⟨gs, 0, none⟩), .slice VA l.length vc, vp, .int .i64 n'] * Asn.vec 79 4 vp (ps.map du).length (poL (ps.map du)))) by rw [hR]; ac_rfl))).mono ?_
        rintro e w10 ⟨rfl, hX⟩
        unfold entCells
        have S7 := Lib.hid ((hX.alloc #[.string (ofL gk.key), .string (ofL gk.val), .bool gk.ghost] 44).re (show _ = Asn.blk w10.heap.size 44 #[.string (ofL gk.key), .string (ofL gk.val), .bool gk.ghost] * (Asn.vec 44 3 (.slice VA l.length vc) l.length (cells3 l) * (Asn.blk g 30 #[.pointer (some ⟨gs, 0, none⟩), .slice VA l.length vc, vp, .int .i64 n'] * R)) by rw [hR]; ac_rfl))
        clear hX S6 HGt c0
        go_upto_region 16 with fail
        obtain ⟨gd, hgz⟩ : ∃ g, g = w10.heap.size := ⟨_, rfl⟩
        rw [← hgz] at S7 ⊢
        clear hgz
        generalize World.alloc w10 _ = w11 at *

        go_wp2_with fail
        go_loopw [11, 12] (fun f_ j_ wr => ∃ (j : Nat), j ≤ l.length ∧ j_ = .int .i64 j ∧ f_ = .bool (fd key (l.take j)) ∧ Hid (Own w No wr (Asn.blk gd 44 #[.string (ofL gk.key), .string (ofL gk.val), .bool gk.ghost] * (Asn.vec 44 3 (.slice VA l.length vc) l.length (cells3 l) * (Asn.blk g 30 #[.pointer (some ⟨gs, 0, none⟩), .slice VA l.length vc, vp, .int .i64 n'] * R))))) (fun _ j_ _ => l.length - (intOf j_).toNat)
        case atStart => exact ⟨0, Nat.zero_le _, rfl, rfl, S7⟩
        case round =>
          clear S7
          obtain ⟨j, hj, rfl, rfl, S7⟩ := hrel
          obtain ⟨-, c1, -, -⟩ := post_cellsB (S7.out.has (Has.r (Has.r (Has.l (has_blk g _ _)))))
          by_cases hjl : j < l.length
          · obtain ⟨x, hx⟩ : ∃ x, l[j]? = some x := ⟨_, List.getElem?_eq_getElem hjl⟩
            have hjI : (j : Int) < (l.length : Int) := by omega
            obtain ⟨vb, vo, rfl, -, a0, a1, a2⟩ := (Row3.of_vec S7.out.right.vec).at hx
            have hfn := fd_next (key := key) hx
            have hxm := List.mem_of_getElem? hx
            have hkq : ((ofL x.key).toList == (ofL key).toList) = decide (x.key = key) := (str_eq _ _).trans (decide_eq_decide.2 ⟨fun h => Bk.ofL_inj h, fun h => by rw [h]⟩)
            by_cases h1 : x.key = key
            · as_aux_lemma =>
                rw [decide_eq_true h1] at hkq hfn
                rw [Bool.or_true] at hfn
                have hgx := HU.out x hxm h1
                have hbt : bi = true := by rw [HBI.out]; exact decide_eq_true (List.mem_map.2 ⟨x, hxm, h1⟩)
                subst hgx hbt
                have HF := Lib.hid hfn
                obtain ⟨⟨e0, e1, e2⟩, -⟩ := three_ofE (S7.out.has (Has.l (has_blk gd _ _)))
                clear h1 hfn hx hxm
                go_wp2_with fail
                go_quiet (fail)
                have S8 := Lib.hid (S7.out.drewN nq)
                clear S7 c1 a0 a1 a2 e0 e1 e2
                generalize wr.drewN nq = w12 at *
                go_wp2_with fail
                go_roundw
                case rel => exact ⟨j + 1, by omega, by go_num, by rw [HF.out], S8⟩
                case measure => simp only [intOf]; omega
            · as_aux_lemma =>
                rw [decide_eq_false h1] at hkq hfn
                rw [Bool.or_false] at hfn
                have HF := Lib.hid hfn
                clear h1 hfn hx hxm
                go_wp2_with fail
                go_roundw
                case rel => exact ⟨j + 1, by omega, by go_num, by rw [HF.out], S7⟩
                case measure => simp only [intOf]; omega
          · obtain rfl : j = l.length := by omega
            rw [List.take_length]
            have hfb : fd key l = bi := HBI.out.symm
            rw [hfb]
            have HDr := Lib.hid (refDrop_any l key (.slice VA l.length vc) wr (by omega) (Row3.of_vec S7.out.right.vec))
            rw [dropE_eq] at HDr
            dsimp only at HDr
            rw [← HBI.out] at HDr
            clear hfb
            go_wp2_with fail
            refine HDr.out.mono ?_
            rintro e w12 ⟨v', rfl, hX⟩
            have S8 := Lib.hid (S7.out.below hX.bel)
            clear hX HDr S7 c1
            have HX := Lib.hid (show Wx g gs w w12 S V (.slice VA l.length vc) l vp ps n' top ch from ⟨HW.out, hn2, S8.out.right.re (show _ = aWd g gs S V (.slice VA l.length vc) l vp (ps.map du) n' * Asn.emp by unfold aWd sPtr; rw [hR, mul_emp]; ac_rfl)⟩)
            clear S8
            go_wp2_with fail
            go_roundw
            case rel => exact ⟨k + 1, S, V, _, l, vp, ps, n', top, ch, by omega, by omega, by go_num, HX⟩
            case measure => simp only [intOf]; omega
      · have hn8I : (256 : Int) ≤ (n : Int) + 8 := by omega
        go_wp2_with fail
        go_returns
        exact ⟨rfl, HX.out.own.bel⟩
    · by_cases hlt1 : k < m
      · have hltI : (k : Int) < (m : Int) := by omega
        obtain rfl : k = 60 := by omega
        go_wp2_with fail
        go_returns
        exact ⟨rfl, HX.out.own.bel⟩
      · have hltI : ¬ (k : Int) < (m : Int) := by omega
        go_wp2_with fail
        go_returns
        exact ⟨rfl, HX.out.own.bel⟩
end Go.Proofs.Yteiiogaopgfpfaa.Bk
end

-- joined
section
namespace Go.Proofs.Yteiiogaopgfpfaa.Law
open Go.ChangeShapes Go.WideShapes Go.ChangeAt Go.RowKit

section
variable {H : Type} {enc : TypeId × Value → H} {P : Program}
theorem post_of_below {f : Func} {s : ChangeSpec} {apart fresh handsOn again : Bool} {W W' : World} {args : Array Value} {v : Value} {ds gs : List (DataW H)} {before pa pv : List MemPlace}
    (hW : DataW.Whole enc P f.params.toList s.vars apart W args.toList ds gs before)
    (hres : ∀ (b : Nat) (sp : Nat → Bool) (hd : Bool), DataW.TrodAll enc P W' b sp hd f.resultTypes.toList (v.resultList f.resultTypes.size) (s.fn H (ds ++ gs)).results [])
    (hargs : ∀ sp : Nat → Bool, (∀ p ∈ before, sp p.block = true) → DataW.TrodAll enc P W' 0 sp true f.params.toList args.toList (s.fn H (ds ++ gs)).args pa)
    (hvars : ∀ sp : Nat → Bool, (∀ p ∈ before, sp p.block = true) → DataW.TrodVars enc P W' sp s.vars (s.fn H (ds ++ gs)).vars pv)
    (hps : before = pa ++ pv) (hb : Below W.heap.size W W')
    (hok : ∀ (j : Nat) (t : TypeId) (r : Value), f.resultTypes[j]? = some t → (v.resultList f.resultTypes.size)[j]? = some r → Value.okWide P W' .any 0 t r) :
    s.post enc P f apart fresh handsOn again W args v W' := by
  have hlt : ∀ p ∈ before, p.block < W.heap.size := fun p hp => hW.lt p hp
  have hold : ∀ p ∈ before, (fun b => decide (b < W.heap.size)) p.block = true := fun p hp => by simpa using hlt p hp
  refine ⟨ds, gs, before, [], pa, pv, hW, hres _ _ _, hargs _ hold, hvars _ hold, World.keptBut_mono (fun p hp => ⟨hp, ?_⟩) (hb.frame (· ∈ before)), fun _ => ?_⟩
  · rw [hps, List.mem_append] at hp
    exact Or.inr hp
  · obtain ⟨_, _, _, _, _, hz, hn⟩ := hW
    refine ⟨hok, _, _, ([] ++ pa) ++ pv, ⟨[] ++ pa, pv, trodAll_append (hargs _ (fun _ _ => rfl)) (hres _ _ _), hvars _ (fun _ _ => rfl), rfl, ?_, ?_⟩, ?_⟩
    · intro b off hp
      have hin : MemPlace.cell b off ∈ before := by rw [hps]; simpa using hp
      rw [hb.frozen (hlt _ hin)]
      exact hz b off hin
    · intro ha
      have := hn ha
      rw [hps] at this
      simpa using this
    · intro p hp _
      rw [hps]
      simpa using hp

theorem trodAll_stays (hl : laidOutB P = true) {W W' : World} (hb : Below W.heap.size W W') {sp' : Nat → Bool} : ∀ {ts : List TypeId} {vs : List Value} {ds : List (DataW H)} {ps : List MemPlace},
    (∀ t ∈ ts, P.readableRec t = true ∧ t < P.types.size) → DataW.TrodAll enc P W 0 (fun _ => true) true ts vs ds ps → (∀ p ∈ ps, p.block < W.heap.size) → (∀ p ∈ ps, sp' p.block = true) →
    DataW.TrodAll enc P W' 0 sp' true ts vs ds ps
  | [], [], [], _, _, h, _, _ => h
  | t :: ts, v :: vs, d :: ds, ps, hr, h, hlt, hs => by
    obtain ⟨p, q, h1, h2, rfl⟩ := h
    have hrt := hr t (by simp)
    exact ⟨p, q, WideElems.Trod_stays hl hrt.1 hrt.2 h1 (fun x hx => hb.same (hlt x (by simp [hx]))) (fun x hx => hs x (by simp [hx])),
      trodAll_stays hl hb (fun t' ht' => hr t' (by simp [ht'])) h2 (fun x hx => hlt x (by simp [hx])) (fun x hx => hs x (by simp [hx])), rfl⟩
  | [], [], _ :: _, _, _, h, _, _ => h.elim
  | [], _ :: _, _, _, _, h, _, _ => by cases ‹List (DataW H)› <;> exact h.elim
  | _ :: _, [], _, _, _, h, _, _ => by cases ‹List (DataW H)› <;> exact h.elim
  | _ :: _, _ :: _, [], _, _, h, _, _ => h.elim

/-- A law's last step. -/
theorem law_post {f : Func} {s : ChangeSpec} {apart fresh handsOn again : Bool} {W W' : World} {args : Array Value} {ds gs : List (DataW H)} {before : List MemPlace} {tb : TypeId}
    (hl : laidOutB P = true) (hv : s.vars = []) (hr : (f.params.toList.all fun t => P.readableRec t && decide (t < P.types.size)) = true) (ht : f.resultTypes = #[tb]) (hu : P.underlying tb = some .bool)
    (hfn : s.fn H ds = { results := [.lit (.bool true)], args := ds })
    (hW : DataW.Whole enc P f.params.toList s.vars apart W args.toList ds gs before) (hb : Below W.heap.size W W') :
    s.post enc P f apart fresh handsOn again W args (.bool true) W' := by
  have hW' := hW
  obtain ⟨p, q, hA, hV, rfl, hfz, hnd⟩ := hW
  rw [hv] at hV
  obtain ⟨rfl, rfl⟩ := trodVars_none hV
  have hlt : ∀ x ∈ p ++ [], x.block < W.heap.size := fun x hx => hW'.lt x hx
  have hr' : ∀ t ∈ f.params.toList, P.readableRec t = true ∧ t < P.types.size := by
    intro t hm
    have := List.all_eq_true.1 hr t hm
    simpa using this
  have hfn' : s.fn H (ds ++ []) = { results := [.lit (.bool true)], args := ds } := by rw [List.append_nil]; exact hfn
  refine post_of_below (pa := p) (pv := []) hW' ?_ ?_ ?_ rfl hb ?_
  · intro b sp hd
    rw [hfn', ht]
    exact trodAll_cons_mk (shut_bool hu _) trodAll_mk0
  · intro sp hs
    rw [hfn']
    exact trodAll_stays hl hb hr' hA (fun x hx => hlt x (by simp [hx])) (fun x hx => hs x (by simp [hx]))
  · intro sp hs
    rw [hv, hfn']
    rfl
  · exact ok_one ht rfl (okWide_bool_mk hu _)
end

section
open Go.Deep
variable {H : Type} {enc : TypeId × Value → H} {P : Program} {w : World} {base : Nat} {spare : Nat → Bool} {held : Bool}
/-- A slice of structs of one-cell fields that comes in. -/
theorem open_slice_fields {t e : TypeId} {fs : Array Field} {fuel : Nat} {cs : List Value} {x : DataW H × List MemPlace} (ht : P.underlying t = some (.slice e)) (he : P.underlying e = some (.struct fs))
    (hone : oneCellFields P fs = true) (hC : P.cellsOf e = fs.size) (h : DataW.trod enc P w base spare held fuel t cs = some x) :
    (cs = [.slice none 0 0] ∧ x = (.nil, [])) ∨
    ∃ (a : Addr) (len cap m : Nat) (D : Nat → DataW H) (Pl : Nat → List MemPlace), cs = [.slice (some a) len cap] ∧ base ≤ a.block ∧ len ≤ cap ∧ cap ≤ maxLen ∧ m = (if spare a.block then cap else len) ∧
      x = (.slice ((List.range len).map D) ((List.range (m - len)).map fun j => D (len + j)), MemPlace.row a (m * fs.size) ++ (List.range m).flatMap Pl) ∧
      ∀ i, i < m → ∃ (ys : List (DataW H × List MemPlace)) (n : Nat), D i = .agg (ys.map (·.1)) ∧ Pl i = ys.flatMap (·.2) ∧ ys.length = fs.size ∧
        ∀ (j : Nat) (f : Field), fs[j]? = some f → ∃ (v : Value) (y : DataW H × List MemPlace), w.cell? (a.add (i * fs.size + j)) = some v ∧ ys[j]? = some y ∧ DataW.trod enc P w base spare held n f.type [v] = some y := by
  rcases open_slice ht h with h0 | ⟨a, len, cap, m, n, D, Pl, hcs, hb, hl, hm, hmm, hx, hi⟩
  · exact .inl h0
  · refine .inr ⟨a, len, cap, m, D, Pl, hcs, hb, hl, hm, hmm, by rw [hC] at hx; exact hx, fun i him => ?_⟩
    obtain ⟨cs', hc, ht'⟩ := hi i him
    rw [hC] at hc
    obtain ⟨ys, n', hn', hy, hlen, hyl, hf⟩ := DataW.trod_struct he ht'
    obtain ⟨_, hcl, hat⟩ := World.cells?_some hc
    simp only [Prod.mk.injEq] at hy
    refine ⟨ys, n', hy.1, hy.2, hyl, fun j f hj => ?_⟩
    obtain ⟨ho, hk⟩ := hone_of hone j f hj
    have hjl : j < fs.size := (Array.getElem?_eq_some_iff.1 hj).1
    have hcell := hat j hjl
    have hv : cs'[j]? = some (cs'[j]'(by omega)) := List.getElem?_eq_getElem (by omega)
    have h1 := hf j f hj
    rw [ho, hk] at h1
    have hone' : (cs'.drop j).take 1 = [cs'[j]'(by omega)] := by
      rw [List.drop_eq_getElem_cons (by omega)]
      rfl
    rw [hone'] at h1
    have hys : ys[j]? = some (ys[j]'(by omega)) := List.getElem?_eq_getElem (by omega)
    refine ⟨_, _, ?_, hys, h1.trans hys⟩
    rw [← Go.Deep.add_add, hcell, hv]
end

section
variable {H : Type} {enc : TypeId × Value → H} {P : Program} {w : World} {r : Reach} {b0 base : Nat} {spare : Nat → Bool} {held : Bool} {v : Value} {d : DataW H} {p : List MemPlace}
theorem cell_lt {w : World} {a : Addr} {v : Value} (h : w.cell? a = some v) : a.block < w.heap.size := by
  rcases Nat.lt_or_ge a.block w.heap.size with hl | hl
  · exact hl
  · have : w.heap[a.block]? = none := Array.getElem?_eq_none hl
    simp [World.cell?, this] at h
end

/-! A world in which listed variables hold their data: for the witness. -/
mutual
def flat : DataW Unit → List Value
  | .lit (.int k n) => [.int k n]
  | .lit (.bool b) => [.bool b]
  | .lit (.string l) => [.string ⟨l.toArray⟩]
  | .agg ds => flats ds
  | _ => []
def flats : List (DataW Unit) → List Value
  | [] => []
  | d :: r => flat d ++ flats r
end
def put (d : DataW Unit) : Obj → Obj
  | .cells _ t frozen => .cells (flat d).toArray t frozen
  | o => o
noncomputable def laidWorld (P : Program) (os : Os) (rows : List (Nat × DataW Unit)) : World :=
  { World.holding P os ⟨#[], #[], []⟩ with heap := rows.foldl (fun h r => h.modify r.1 (put r.2)) (World.holding P os ⟨#[], #[], []⟩).heap }
end Go.Proofs.Yteiiogaopgfpfaa.Law
end

-- joined
section
namespace Go.Proofs.Yteiiogaopgfpfaa.Law
open Go.ChangeShapes Go.WideShapes Go.ChangeAt Go.RowKit Go.Deep Aid
variable {H : Type} {enc : TypeId × Value → H} {P : Program} {w : World} {r : Reach} {b0 base : Nat} {spare : Nat → Bool} {held : Bool} {v : Value} {d : DataW H} {p : List MemPlace}
/-- A slice of structs of numbers that comes in. -/
theorem open_int_rows {t e : TypeId} {fs : Array Field} (F : Nat) (ht : P.underlying t = some (.slice e)) (he : P.underlying e = some (.struct fs)) (hone : oneCellFields P fs = true) (hC : P.cellsOf e = fs.size) (hF : fs.size = F) (h0F : 0 < F)
    (hint : ∀ (j : Nat) (f : Field), fs[j]? = some f → P.underlying f.type = some (.int .i64))
    (hv : Value.okWide P w r b0 t v) (h : DataW.Trod enc P w base spare held t v d p) :
    ∃ (A : Option Addr) (m c : Nat) (z : Nat → Nat → Int), v = .slice A m c ∧ m ≤ maxLen ∧ m ≤ c ∧ c ≤ maxLen ∧ IntRows w A m F z := by
  subst hF
  obtain ⟨a0, len, cap, rfl⟩ := okWide_slice ht hv
  obtain ⟨fuel, hf⟩ := h
  rcases open_slice_fields ht he hone hC hf with ⟨hcs, -⟩ | ⟨a, len', cap', m, D, Pl, hcs, -, hl, hm, hmm, -, hi⟩
  · have e : (Value.slice a0 len cap) = .slice none 0 0 := by simpa [Value.cells] using hcs
    cases e
    exact ⟨none, 0, 0, fun _ _ => 0, rfl, by decide, Nat.le_refl _, by decide, Or.inl rfl⟩
  · have e : (Value.slice a0 len cap) = .slice (some a) len' cap' := by simpa [Value.cells] using hcs
    cases e
    have hlm : len ≤ m := by rw [hmm]; split <;> omega
    have key : ∀ i, i < len → ∀ j, j < fs.size → ∃ n, w.cell? (a.add (i * fs.size + j)) = some (.int .i64 n) ∧ (Lit.int .i64 n).wf = true := by
      intro i hi' j hj
      obtain ⟨ys, k, -, -, -, hat⟩ := hi i (by omega)
      obtain ⟨v, y, hc, -, ht'⟩ := hat j fs[j] (Array.getElem?_eq_getElem hj)
      obtain ⟨n, hn, -, hw⟩ := DataW.trod_int (hint j fs[j] (Array.getElem?_eq_getElem hj)) ht'
      obtain rfl : v = .int .i64 n := by simpa using hn
      exact ⟨n, hc, hw⟩
    let z : Nat → Nat → Int := fun i j => match w.cell? (a.add (i * fs.size + j)) with | some (.int _ n) => n | _ => 0
    refine ⟨some a, len, cap, z, rfl, by omega, hl, hm, ?_⟩
    by_cases h0 : len = 0
    · exact Or.inl h0
    right
    obtain ⟨n0, c0, -⟩ := key 0 (by omega) 0 (by omega)
    obtain ⟨b, o, spot⟩ := a
    obtain rfl : spot = none := by simpa [Addr.add] using World.cell?_spot c0
    have ha : ∀ i, (⟨b, o, none⟩ : Addr).add i = ⟨b, o + i, none⟩ := fun i => Go.WideShapes.add_plain b o i
    refine ⟨b, o, rfl, ?_, fun i hi j hj => ?_, fun i hi j hj => ?_⟩
    · rw [ha] at c0; exact cell_lt c0
    · obtain ⟨n, hc, hw⟩ := key i hi j hj
      have : z i j = n := by show (match w.cell? _ with | some (.int _ n) => n | _ => 0) = n; rw [hc]
      rw [this, Nat.add_assoc, ← ha]; exact hc
    · obtain ⟨n, hc, hw⟩ := key i hi j hj
      have : z i j = n := by show (match w.cell? _ with | some (.int _ n) => n | _ => 0) = n; rw [hc]
      rw [this]; exact bounds_i64 hw
end Go.Proofs.Yteiiogaopgfpfaa.Law
end
