/- Texts of ours, joined. -/
import Derived.Test.YtfahgejiclgbfaaBkAb
import Derived.Test.YtfahgejiclgbfaaBkAd
import Derived.Test.YtfahgejiclgbfaaBkX
import Derived.Test.YtfahgejiclgbfaaBkKy
import Derived.WalkKit
import Derived.ProofKit
import Derived.OpenShut
import Derived.Below
import Derived.Carry
import Derived.ChangeSame
import Derived.JoinedCond
import Derived.Deep.DeepHandedRow
import Derived.Lib.LaidTab
import Derived.Lib.SmallJoins
import Derived.Deep.Slices
import Derived.Deep.Fields

-- joined
section
namespace Go.Proofs.Ytfahgejiclgbfaa.Bk
open Go.ChangeShapes Go.WideShapes Go.ChangeAt Go.RowKit Go.PlainAid Aid Nt Nd Tr
open Ky (keyZ key_any)
set_option linter.unusedVariables false
set_option linter.unusedSimpArgs false
set_option linter.unusedSectionVars false
theorem up_all {q : Nod → Prop} {S : Sf} (h : ∀ p, p < 256 → q (S p)) (L : List (Int × Nod)) (hL : ∀ x, x ∈ L → q x.2) : ∀ p, p < 256 → q (puts S L p) := by
  unfold puts
  induction L generalizing S with
  | nil => exact h
  | cons a l ih =>
    rw [List.foldl_cons]
    refine ih (fun p hp => ?_) (fun x hx => hL x (List.mem_cons_of_mem _ hx))
    unfold putS
    split
    · unfold up
      split
      · exact hL a List.mem_cons_self
      · exact h p hp
    · exact h p hp
theorem Sm.puts {S : Sf} (h : Sm S) {L : List (Int × Nod)} (hL : ∀ x, x ∈ L → x.2.list.length ≤ 99999) : Sm (puts S L) := up_all (q := fun n => n.list.length ≤ 99999) h L hL
theorem LvOk.puts {S : Sf} (h : LvOk S) {L : List (Int × Nod)} (hL : ∀ x, x ∈ L → Low63 x.2) : LvOk (puts S L) := up_all (q := Low63) h L hL
/-- The lists of changes that are owned can be read. -/
theorem aLs_row {w0 w : World} {O0 : Nat → Prop} : ∀ (L : List Sp) {C : Asn}, Own w0 O0 w (aLs L * C) → ∀ x, x ∈ L → Row3 w x.v x.nd.list
  | [], _, _, x, hx => by cases hx
  | y :: L, C, h, x, hx => by
    have h1 : Own w0 O0 w (aEnts y.nd y.v * (aLs L * C)) := by
      have h2 : Own w0 O0 w ((aEnts y.nd y.v * aLs L) * C) := h
      exact h2.re (by ac_rfl)
    rcases List.mem_cons.1 hx with rfl | hx
    · exact Row3.of_vec (show Own w0 O0 w (Asn.vec 44 3 x.v x.nd.list.length (cells3 x.nd.list) * _) from h1).vec
    · exact aLs_row L h1.right x hx
theorem chv_own {w0 W : World} {v : Value} {L : List Sp} {gs : Nat} {S : Sf} {V : Nat → Value} {C : Asn} (hl : L.length ≤ 1000) (h : Own w0 No W (aSf gs S V * (Asn.vec 73 8 v L.length (spL L) * (aLs L * C)))) : ChV W v L := by
  have hv := h.right.vec
  obtain ⟨A, c, rfl⟩ := hv.slice
  refine ⟨A, c, rfl, hl, ?_, aLs_row L h.right.right⟩
  rcases hv.forms with ⟨-, hz⟩ | ⟨g, cap, e, -, -, -⟩
  · exact Or.inl (List.eq_nil_of_length_eq_zero hz)
  · cases e
    exact Or.inr ⟨g, rfl, fun j u hu => hv.cell hu⟩
/-- Put, of changes that are owned. -/
theorem ShPut_own (gs : Nat) (S : Sf) (V : Nat → Value) (L : List Sp) (n : Nat) (hn : L.length = n) (v : Value) (w0 w : World) (C : Asn) (hL : n ≤ 1000) (hl : ∀ x, x ∈ plain L → x.2.list.length ≤ 99999) (hS : Own w0 No w (Asn.vec 73 8 v n (spL L) * (aLs L * (aSf gs S V * C)))) :
    Calls Try.prog 30 #[sPtr gs, v] w fun e w' => e = .returned (.tuple #[]) ∧ ∃ V', Own w0 No w' (aSf gs (puts S (plain L)) V' * C) := by
  subst hn
  refine (ShPut_any gs S V L v w0 w (Asn.vec 73 8 v L.length (spL L) * (aLs L * C)) (fun W S' V' h => chv_own hL h) (fun x hx => ?_) (hS.re (by ac_rfl))).mono ?_
  · have := hl (x.pg, x.nd) (List.mem_map.2 ⟨x, hx, rfl⟩)
    dsimp only at this
    omega
  · rintro e w' ⟨rfl, V', h⟩
    exact ⟨rfl, V', (h.re (show _ = (Asn.vec 73 8 v L.length (spL L) * aLs L) * (aSf gs (puts S (plain L)) V' * C) by ac_rfl)).right⟩
def T0 : Sf := fun _ => Nod.none
def e1 : Ent := ⟨keyZ 1, [97], false⟩
def e2 : Ent := ⟨keyZ 2, [98], false⟩
def T1 : Sf := puts T0 (putR T0 3 e1).2
def T2 : Sf := puts T1 (putR T1 3 e2).2
def T3 : Sf := puts T2 (splitR T2 3 0 (keyZ 1) 5 6).2.1
theorem p1 : (putR T0 3 e1).1 = 0 ∧ (putR T0 3 e1).2.length = 1 ∧ ∀ x, x ∈ (putR T0 3 e1).2 → x.2.list.length ≤ 99999 ∧ x.2.level ≤ 9223372036854775807 := by decide +kernel
theorem p2 : (putR T1 3 e2).1 = 0 ∧ (putR T1 3 e2).2.length = 1 ∧ ∀ x, x ∈ (putR T1 3 e2).2 → x.2.list.length ≤ 99999 ∧ x.2.level ≤ 9223372036854775807 := by decide +kernel
theorem p3 : (splitR T2 3 0 (keyZ 1) 5 6).1 = 0 ∧ (splitR T2 3 0 (keyZ 1) 5 6).2.1.length = 3 ∧ (splitR T2 3 0 (keyZ 1) 5 6).2.2 = (0, 0, [], 0) ∧ ∀ x, x ∈ (splitR T2 3 0 (keyZ 1) 5 6).2.1 → x.2.list.length ≤ 99999 ∧ x.2.level ≤ 9223372036854775807 := by decide +kernel
theorem p4 : getR T3 3 (keyZ 2) = (0, true, ⟨keyZ 2, [98], false⟩) := by decide +kernel
theorem p5 : (vis T3 256 3).err = 0 ∧ (vis T3 256 3).nd.level = 1 := by decide +kernel
theorem m0 : Sm T0 ∧ LvOk T0 := ⟨fun _ _ => Nat.zero_le _, fun _ _ => show (0 : Int) ≤ 9223372036854775807 by decide⟩
theorem m1 : Sm T1 ∧ LvOk T1 := ⟨m0.1.puts fun x hx => (p1.2.2 x hx).1, m0.2.puts fun x hx => (p1.2.2 x hx).2⟩
theorem m2 : Sm T2 ∧ LvOk T2 := ⟨m1.1.puts fun x hx => (p2.2.2 x hx).1, m1.2.puts fun x hx => (p2.2.2 x hx).2⟩
theorem m3 : Sm T3 ∧ LvOk T3 := ⟨m2.1.puts fun x hx => (p3.2.2.2 x hx).1, m2.2.puts fun x hx => (p3.2.2.2 x hx).2⟩
theorem len_one {L : List Sp} {P : List (Int × Nod)} (h : plain L = P) : L.length = P.length := by rw [← h]; simp [plain]
set_option maxRecDepth 100000 in
set_option maxHeartbeats 8000000 in
theorem awake_any (w : World) :
    Calls Try.prog 10 #[] w fun e w' => e = .returned (.bool true) ∧ Below w.heap.size w w' := by
  have HK1 := Lib.hid (fun W => key_any 1 W (by decide) (by decide))
  have HK2 := Lib.hid (fun W => key_any 2 W (by decide) (by decide))
  have HP1 := Lib.hid (fun gs V W h => Put_any gs T0 V m0.1 m0.2 3 e1 w W Asn.emp h)
  have HP2 := Lib.hid (fun gs V W h => Put_any gs T1 V m1.1 m1.2 3 e2 w W Asn.emp h)
  have HSp := Lib.hid (fun gs V W h => Split_any gs T2 V m2.1 m2.2 3 0 (keyZ 1) 5 6 w W Asn.emp h)
  have HG := Lib.hid (fun gs V W C h => Get_any gs T3 V m3.1 m3.2 3 (keyZ 2) w W C h)
  have HH := Lib.hid (fun gs V W C h => Height_any gs T3 V m3.1 m3.2 3 w W C h)
  rw [p4] at HG
  rw [p5.1, p5.2] at HH
  rw [p3.1, p3.2.2.1] at HSp
  rw [p2.1] at HP2
  rw [p1.1] at HP1
  rw [show entCells e1 = #[.string (ofL (keyZ 1)), .string ⟨#[97]⟩, .bool false] from rfl] at HP1
  rw [show entCells e2 = #[.string (ofL (keyZ 2)), .string ⟨#[98]⟩, .bool false] from rfl] at HP2
  unfold pgs at HP1 HP2
  unfold pgs poC at HSp
  unfold pgs entCells at HG
  unfold pgs at HH
  dsimp only at HP1 HP2 HSp HG HH
  rw [show ofL ([] : By) = ⟨#[]⟩ from rfl] at HSp
  rw [show ofL ([98] : By) = ⟨#[98]⟩ from rfl] at HG
  go_enter Try.func10, Try.ntmps10
  go_wp2_with fail
  refine (New_any w).mono ?_
  rintro e w1 ⟨gs, V0, rfl, hX⟩
  have S1 := Lib.hid (show Own w No w1 (aSf gs T0 V0 * Asn.emp) from hX.addEmp)
  clear hX
  unfold sPtr
  go_wp2_with fail
  refine (HK1.out _).mono ?_
  rintro e w2 ⟨rfl, hX⟩
  have S2 := Lib.hid (S1.out.below hX)
  clear hX S1 
  clear HK1
  go_wp2_with fail
  refine (HP1.out _ _ _ S2.out).mono ?_
  rintro e w3 ⟨v, L, rfl, hpl, hX⟩
  have hlen : L.length = 1 := by rw [len_one hpl]; exact p1.2.1
  obtain ⟨A1, A1c, rfl⟩ := hX.vec.slice
  rw [hlen] at hX ⊢
  have HPu := Lib.hid (ShPut_own gs _ _ L 1 hlen (.slice A1 1 A1c) w w3 Asn.emp (by decide) (by rw [hpl]; exact fun x hx => (p1.2.2 x hx).1) hX)
  rw [hpl] at HPu
  clear hX S2 HP1 hlen
  unfold sPtr at HPu
  go_wp2_with fail
  refine HPu.out.mono ?_
  rintro e w4 ⟨rfl, V1, hX⟩
  have S4 := Lib.hid (show Own w No w4 (aSf gs T1 V1 * Asn.emp) from hX)
  clear hX HPu hpl
  go_wp2_with fail
  refine (HK2.out _).mono ?_
  rintro e w5 ⟨rfl, hX⟩
  have S5 := Lib.hid (S4.out.below hX)
  clear hX S4 
  go_wp2_with fail
  refine (HP2.out _ _ _ S5.out).mono ?_
  rintro e w6 ⟨v, L, rfl, hpl, hX⟩
  have hlen : L.length = 1 := by rw [len_one hpl]; exact p2.2.1
  obtain ⟨A2, A2c, rfl⟩ := hX.vec.slice
  rw [hlen] at hX ⊢
  have HPu := Lib.hid (ShPut_own gs _ _ L 1 hlen (.slice A2 1 A2c) w w6 Asn.emp (by decide) (by rw [hpl]; exact fun x hx => (p2.2.2 x hx).1) hX)
  rw [hpl] at HPu
  clear hX S5 HP2 hlen
  unfold sPtr at HPu
  go_wp2_with fail
  refine HPu.out.mono ?_
  rintro e w7 ⟨rfl, V2, hX⟩
  have S7 := Lib.hid (show Own w No w7 (aSf gs T2 V2 * Asn.emp) from hX)
  clear hX HPu hpl
  go_wp2_with fail
  refine (Ky.key_any 1 _ (by decide) (by decide)).mono ?_
  rintro e w8 ⟨rfl, hX⟩
  have S8 := Lib.hid (S7.out.below hX)
  clear hX S7 
  go_wp2_with fail
  refine (HSp.out _ _ _ S8.out).mono ?_
  rintro e w9 ⟨v, L, rfl, hpl, hX⟩
  have hlen : L.length = 3 := by rw [len_one hpl]; exact p3.2.1
  obtain ⟨A3, A3c, rfl⟩ := hX.vec.slice
  rw [hlen] at hX ⊢
  have S9 := Lib.hid (hX.alloc #[.int .i64 0, .int .i64 0, .string ⟨#[]⟩, .int .i64 0] 91)
  clear hX S8 HSp
  go_wp2_with fail
  obtain ⟨g7, hgz⟩ : ∃ g, g = w9.heap.size := ⟨_, rfl⟩
  rw [← hgz] at S9 ⊢
  clear hgz
  generalize World.alloc _ _ = wa at *
  have HPu := Lib.hid (ShPut_own gs _ _ L 3 hlen (.slice A3 3 A3c) w wa (Asn.blk g7 91 #[.int .i64 0, .int .i64 0, .string ⟨#[]⟩, .int .i64 0] * Asn.emp) (by decide) (by rw [hpl]; exact fun x hx => (p3.2.2.2 x hx).1) (S9.out.re (by ac_rfl)))
  rw [hpl] at HPu
  clear S9 hlen
  unfold sPtr at HPu
  refine HPu.out.mono ?_
  rintro e wb ⟨rfl, V3, hX⟩
  have Sb := Lib.hid (show Own w No wb (aSf gs T3 V3 * (Asn.blk g7 91 #[.int .i64 0, .int .i64 0, .string ⟨#[]⟩, .int .i64 0] * Asn.emp)) from hX)
  clear hX HPu hpl
  go_wp2_with fail
  refine (HK2.out _).mono ?_
  rintro e wc ⟨rfl, hX⟩
  have Sc := Lib.hid (Sb.out.below hX)
  clear hX Sb 
  go_wp2_with fail
  refine (HG.out _ _ _ _ Sc.out).mono ?_
  rintro e wd ⟨rfl, hX⟩
  have Sd := Lib.hid (hX.alloc #[.string (ofL (keyZ 2)), .string ⟨#[98]⟩, .bool false] 44)
  clear hX Sc HG HK2
  go_wp2_with fail
  obtain ⟨g9, hgz⟩ : ∃ g, g = wd.heap.size := ⟨_, rfl⟩
  rw [← hgz] at Sd ⊢
  clear hgz
  generalize World.alloc _ _ = we at *
  have HH2 := Lib.hid (HH.out _ _ _ _ (Sd.out.re (show _ = aSf gs T3 V3 * (Asn.blk g9 44 #[.string (ofL (keyZ 2)), .string ⟨#[98]⟩, .bool false] * (Asn.blk g7 91 #[.int .i64 0, .int .i64 0, .string ⟨#[]⟩, .int .i64 0] * Asn.emp)) by ac_rfl)))
  refine HH2.out.mono ?_
  rintro e wf ⟨z, rfl, hz, hX⟩
  obtain rfl : z = 2 := hz trivial (by decide) (by decide)
  have Sf := Lib.hid hX
  clear hX HH2 HH Sd hz
  obtain ⟨⟨c0, c1, c2, c3⟩, -⟩ := four_of (Sf.out.has (Has.r (Has.r (Has.l (has_blk g7 _ _)))))
  have d1 := (Sf.out.has (Has.r (Has.l (has_blk g9 _ _)))).cell 1
  go_wp2_with fail
  go_returns
  exact ⟨rfl, Sf.out.bel⟩
end Go.Proofs.Ytfahgejiclgbfaa.Bk
end

-- joined
section
namespace Go.Proofs.Ytfahgejiclgbfaa.Law
open Go.ChangeShapes Go.WideShapes Go.ChangeAt Go.RowKit

section
variable {H : Type} {enc : TypeId × Value → H} {P : Program}
theorem post_of_below {f : Func} {s : ChangeSpec} {apart fresh handsOn again : Bool} {W W' : World} {args : Array Value} {v : Value} {ds gs : List (DataW H)} {before pa pv : List MemPlace}
    (hW : DataW.Whole enc P f.params.toList s.vars apart W args.toList ds gs before)
    (hres : ∀ (b : Nat) (sp : Nat → Bool) (hd : Bool), DataW.TrodAll enc P W' b sp hd f.resultTypes.toList (v.resultList f.resultTypes.size) (s.fn H (ds ++ gs)).results [])
    (hargs : ∀ sp : Nat → Bool, (∀ p ∈ before, sp p.block = true) → DataW.TrodAll enc P W' 0 sp true f.params.toList args.toList (s.fn H (ds ++ gs)).args pa)
    (hvars : ∀ sp : Nat → Bool, (∀ p ∈ before, sp p.block = true) → DataW.TrodVars enc P W' sp s.vars (s.fn H (ds ++ gs)).vars pv)
    (hps : before = pa ++ pv) (hb : Below W.heap.size W W')
    (hok : ∀ (j : Nat) (t : TypeId) (r : Value), f.resultTypes[j]? = some t → (v.resultList f.resultTypes.size)[j]? = some r → Value.okWide P W' .any 0 t r) :
    s.post enc P f apart fresh handsOn again W args v W' := by
  have hlt : ∀ p ∈ before, p.block < W.heap.size := fun p hp => hW.lt p hp
  have hold : ∀ p ∈ before, (fun b => decide (b < W.heap.size)) p.block = true := fun p hp => by simpa using hlt p hp
  refine ⟨ds, gs, before, [], pa, pv, hW, hres _ _ _, hargs _ hold, hvars _ hold, World.keptBut_mono (fun p hp => ⟨hp, ?_⟩) (hb.frame (· ∈ before)), fun _ => ?_⟩
  · rw [hps, List.mem_append] at hp
    exact Or.inr hp
  · obtain ⟨_, _, _, _, _, hz, hn⟩ := hW
    refine ⟨hok, _, _, ([] ++ pa) ++ pv, ⟨[] ++ pa, pv, trodAll_append (hargs _ (fun _ _ => rfl)) (hres _ _ _), hvars _ (fun _ _ => rfl), rfl, ?_, ?_⟩, ?_⟩
    · intro b off hp
      have hin : MemPlace.cell b off ∈ before := by rw [hps]; simpa using hp
      rw [hb.frozen (hlt _ hin)]
      exact hz b off hin
    · intro ha
      have := hn ha
      rw [hps] at this
      simpa using this
    · intro p hp _
      rw [hps]
      simpa using hp

theorem trodAll_stays (hl : laidOutB P = true) {W W' : World} (hb : Below W.heap.size W W') {sp' : Nat → Bool} : ∀ {ts : List TypeId} {vs : List Value} {ds : List (DataW H)} {ps : List MemPlace},
    (∀ t ∈ ts, P.readableRec t = true ∧ t < P.types.size) → DataW.TrodAll enc P W 0 (fun _ => true) true ts vs ds ps → (∀ p ∈ ps, p.block < W.heap.size) → (∀ p ∈ ps, sp' p.block = true) →
    DataW.TrodAll enc P W' 0 sp' true ts vs ds ps
  | [], [], [], _, _, h, _, _ => h
  | t :: ts, v :: vs, d :: ds, ps, hr, h, hlt, hs => by
    obtain ⟨p, q, h1, h2, rfl⟩ := h
    have hrt := hr t (by simp)
    exact ⟨p, q, WideElems.Trod_stays hl hrt.1 hrt.2 h1 (fun x hx => hb.same (hlt x (by simp [hx]))) (fun x hx => hs x (by simp [hx])),
      trodAll_stays hl hb (fun t' ht' => hr t' (by simp [ht'])) h2 (fun x hx => hlt x (by simp [hx])) (fun x hx => hs x (by simp [hx])), rfl⟩
  | [], [], _ :: _, _, _, h, _, _ => h.elim
  | [], _ :: _, _, _, _, h, _, _ => by cases ‹List (DataW H)› <;> exact h.elim
  | _ :: _, [], _, _, _, h, _, _ => by cases ‹List (DataW H)› <;> exact h.elim
  | _ :: _, _ :: _, [], _, _, h, _, _ => h.elim

/-- A law's last step. -/
theorem law_post {f : Func} {s : ChangeSpec} {apart fresh handsOn again : Bool} {W W' : World} {args : Array Value} {ds gs : List (DataW H)} {before : List MemPlace} {tb : TypeId}
    (hl : laidOutB P = true) (hv : s.vars = []) (hr : (f.params.toList.all fun t => P.readableRec t && decide (t < P.types.size)) = true) (ht : f.resultTypes = #[tb]) (hu : P.underlying tb = some .bool)
    (hfn : s.fn H ds = { results := [.lit (.bool true)], args := ds })
    (hW : DataW.Whole enc P f.params.toList s.vars apart W args.toList ds gs before) (hb : Below W.heap.size W W') :
    s.post enc P f apart fresh handsOn again W args (.bool true) W' := by
  have hW' := hW
  obtain ⟨p, q, hA, hV, rfl, hfz, hnd⟩ := hW
  rw [hv] at hV
  obtain ⟨rfl, rfl⟩ := trodVars_none hV
  have hlt : ∀ x ∈ p ++ [], x.block < W.heap.size := fun x hx => hW'.lt x hx
  have hr' : ∀ t ∈ f.params.toList, P.readableRec t = true ∧ t < P.types.size := by
    intro t hm
    have := List.all_eq_true.1 hr t hm
    simpa using this
  have hfn' : s.fn H (ds ++ []) = { results := [.lit (.bool true)], args := ds } := by rw [List.append_nil]; exact hfn
  refine post_of_below (pa := p) (pv := []) hW' ?_ ?_ ?_ rfl hb ?_
  · intro b sp hd
    rw [hfn', ht]
    exact trodAll_cons_mk (shut_bool hu _) trodAll_mk0
  · intro sp hs
    rw [hfn']
    exact trodAll_stays hl hb hr' hA (fun x hx => hlt x (by simp [hx])) (fun x hx => hs x (by simp [hx]))
  · intro sp hs
    rw [hv, hfn']
    rfl
  · exact ok_one ht rfl (okWide_bool_mk hu _)
end

section
open Go.Deep
variable {H : Type} {enc : TypeId × Value → H} {P : Program} {w : World} {base : Nat} {spare : Nat → Bool} {held : Bool}
/-- A slice of structs of one-cell fields that comes in. -/
theorem open_slice_fields {t e : TypeId} {fs : Array Field} {fuel : Nat} {cs : List Value} {x : DataW H × List MemPlace} (ht : P.underlying t = some (.slice e)) (he : P.underlying e = some (.struct fs))
    (hone : oneCellFields P fs = true) (hC : P.cellsOf e = fs.size) (h : DataW.trod enc P w base spare held fuel t cs = some x) :
    (cs = [.slice none 0 0] ∧ x = (.nil, [])) ∨
    ∃ (a : Addr) (len cap m : Nat) (D : Nat → DataW H) (Pl : Nat → List MemPlace), cs = [.slice (some a) len cap] ∧ base ≤ a.block ∧ len ≤ cap ∧ cap ≤ maxLen ∧ m = (if spare a.block then cap else len) ∧
      x = (.slice ((List.range len).map D) ((List.range (m - len)).map fun j => D (len + j)), MemPlace.row a (m * fs.size) ++ (List.range m).flatMap Pl) ∧
      ∀ i, i < m → ∃ (ys : List (DataW H × List MemPlace)) (n : Nat), D i = .agg (ys.map (·.1)) ∧ Pl i = ys.flatMap (·.2) ∧ ys.length = fs.size ∧
        ∀ (j : Nat) (f : Field), fs[j]? = some f → ∃ (v : Value) (y : DataW H × List MemPlace), w.cell? (a.add (i * fs.size + j)) = some v ∧ ys[j]? = some y ∧ DataW.trod enc P w base spare held n f.type [v] = some y := by
  rcases open_slice ht h with h0 | ⟨a, len, cap, m, n, D, Pl, hcs, hb, hl, hm, hmm, hx, hi⟩
  · exact .inl h0
  · refine .inr ⟨a, len, cap, m, D, Pl, hcs, hb, hl, hm, hmm, by rw [hC] at hx; exact hx, fun i him => ?_⟩
    obtain ⟨cs', hc, ht'⟩ := hi i him
    rw [hC] at hc
    obtain ⟨ys, n', hn', hy, hlen, hyl, hf⟩ := DataW.trod_struct he ht'
    obtain ⟨_, hcl, hat⟩ := World.cells?_some hc
    simp only [Prod.mk.injEq] at hy
    refine ⟨ys, n', hy.1, hy.2, hyl, fun j f hj => ?_⟩
    obtain ⟨ho, hk⟩ := hone_of hone j f hj
    have hjl : j < fs.size := (Array.getElem?_eq_some_iff.1 hj).1
    have hcell := hat j hjl
    have hv : cs'[j]? = some (cs'[j]'(by omega)) := List.getElem?_eq_getElem (by omega)
    have h1 := hf j f hj
    rw [ho, hk] at h1
    have hone' : (cs'.drop j).take 1 = [cs'[j]'(by omega)] := by
      rw [List.drop_eq_getElem_cons (by omega)]
      rfl
    rw [hone'] at h1
    have hys : ys[j]? = some (ys[j]'(by omega)) := List.getElem?_eq_getElem (by omega)
    refine ⟨_, _, ?_, hys, h1.trans hys⟩
    rw [← Go.Deep.add_add, hcell, hv]
end

section
variable {H : Type} {enc : TypeId × Value → H} {P : Program} {w : World} {r : Reach} {b0 base : Nat} {spare : Nat → Bool} {held : Bool} {v : Value} {d : DataW H} {p : List MemPlace}
theorem cell_lt {w : World} {a : Addr} {v : Value} (h : w.cell? a = some v) : a.block < w.heap.size := by
  rcases Nat.lt_or_ge a.block w.heap.size with hl | hl
  · exact hl
  · have : w.heap[a.block]? = none := Array.getElem?_eq_none hl
    simp [World.cell?, this] at h
/-- A slice of numbers that comes in. -/
theorem open_nums {t e : TypeId} {k : IntKind} (ht : P.underlying t = some (.slice e)) (he : P.underlying e = some (.int k)) (hc : P.cellsOf e = 1)
    (hv : Value.okWide P w r b0 t v) (h : DataW.Trod enc P w base spare held t v d p) :
    ∃ (A : Option Addr) (m c : Nat) (z : Nat → Int), v = .slice A m c ∧ m ≤ maxLen ∧ m ≤ c ∧ c ≤ maxLen ∧ (m = 0 ∨ ∃ b o, A = some ⟨b, o, none⟩ ∧ b < w.heap.size ∧ (∀ i, i < m → w.cell? ⟨b, o + i, none⟩ = some (.int k (z i))) ∧ ∀ i, i < m → (Lit.int k (z i)).wf = true) := by
  obtain ⟨a0, len, cap, rfl⟩ := okWide_slice ht hv
  obtain ⟨fuel, hf⟩ := h
  rcases open_ints ht he hc hf with ⟨hcs, -⟩ | ⟨a, len', cap', zs, hcs, -, hl, hm, hzl, -, hcell, hwf⟩
  · have e : (Value.slice a0 len cap) = .slice none 0 0 := by simpa [Value.cells] using hcs
    cases e
    exact ⟨none, 0, 0, fun _ => 0, rfl, by decide, Nat.le_refl _, by decide, Or.inl rfl⟩
  · have e : (Value.slice a0 len cap) = .slice (some a) len' cap' := by simpa [Value.cells] using hcs
    cases e
    have hml : len ≤ zs.length := by rw [hzl]; split <;> omega
    refine ⟨some a, len, cap, fun i => zs.getD i 0, rfl, by omega, hl, hm, ?_⟩
    by_cases h0 : len = 0
    · exact Or.inl h0
    right
    obtain ⟨b, o, spot⟩ := a
    have c0 := hcell 0 (by omega)
    obtain rfl : spot = none := by simpa [Addr.add] using World.cell?_spot c0
    have ha : ∀ i, (⟨b, o, none⟩ : Addr).add i = ⟨b, o + i, none⟩ := fun i => Go.WideShapes.add_plain b o i
    refine ⟨b, o, rfl, ?_, fun i hi => ?_, fun i hi => ?_⟩
    · rw [ha] at c0; exact cell_lt c0
    · rw [← ha]; exact hcell i (by omega)
    · have hz : zs[i]? = some zs[i] := List.getElem?_eq_getElem (by omega)
      show (Lit.int k (zs.getD i 0)).wf = true
      rw [List.getD, hz]
      exact hwf _ (List.getElem_mem _)
end

/-! A world in which listed variables hold their data: for the witness. -/
mutual
def flat : DataW Unit → List Value
  | .lit (.int k n) => [.int k n]
  | .lit (.bool b) => [.bool b]
  | .lit (.string l) => [.string ⟨l.toArray⟩]
  | .agg ds => flats ds
  | _ => []
def flats : List (DataW Unit) → List Value
  | [] => []
  | d :: r => flat d ++ flats r
end
def put (d : DataW Unit) : Obj → Obj
  | .cells _ t frozen => .cells (flat d).toArray t frozen
  | o => o
noncomputable def laidWorld (P : Program) (os : Os) (rows : List (Nat × DataW Unit)) : World :=
  { World.holding P os ⟨#[], #[], []⟩ with heap := rows.foldl (fun h r => h.modify r.1 (put r.2)) (World.holding P os ⟨#[], #[], []⟩).heap }
end Go.Proofs.Ytfahgejiclgbfaa.Law
end
