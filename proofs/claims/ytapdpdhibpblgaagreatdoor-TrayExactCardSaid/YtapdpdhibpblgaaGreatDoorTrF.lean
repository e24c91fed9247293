/- Texts of ours, joined. -/
import Derived.Test.YtapdpdhibpblgaaGreatDoorDyG

-- joined
section
namespace Go.Proofs.YtapdpdhibpblgaaGreatDoor.Tr
open Go.ChangeShapes Go.WideShapes Go.ChangeAt Go.RowKit Go.PlainAid Aid Nt Nd Cr
set_option linter.unusedVariables false
set_option linter.unusedSimpArgs false
set_option linter.unusedSectionVars false
/-- The slices of a bench. -/
structure Vs where
  lv : Value
  hv : Value
  ov : Value
def aB (y : Lay) (n : Nat) (v : Vs) (h : Nat → Option Sh) (L : List Rec) (s : W3) (C : Asn) : Asn :=
  aTr y.g y.gd y.gl v.hv v.ov (lst h n) (lst s.d n) * (Sl.aDk y.gd y.m y.b n s.P * (Mn.aMn y.m Rl.idle * (aLg y.gl y.gr y.m 65536 v.lv L s.safe 0 * C)))
def sysR : Rec := bareR 5 0
def Ls (K : Nat) : List Rec := List.replicate K sysR
theorem Ls_succ (K : Nat) : Ls K ++ [sysR] = Ls (K + 1) := by unfold Ls; rw [List.replicate_succ']
theorem flat_Ls (K : Nat) : (flat (Ls K)).length = 29 * K := by
  induction K with
  | zero => rfl
  | succ K ih => rw [← Ls_succ, flat_snoc, List.length_append, ih, show (Nt.bytes sysR).length = 29 from bare_len 5 0]; omega
theorem len_Ls (K : Nat) : (Ls K).length = K := List.length_replicate
theorem at_Ls (K k : Nat) (hk : k ≤ K) : at_ (Ls K) k = 29 * k + 1 := by
  unfold at_
  rw [show (Ls K).take k = Ls k by unfold Ls; rw [List.take_replicate, Nat.min_eq_left hk], flat_Ls]
theorem get_Ls (K k : Nat) (hk : k < K) : (Ls K)[k]? = some sysR := by
  unfold Ls; rw [List.getElem?_replicate, if_pos hk]
theorem sys_good : Nt.goodB sysR = true := bare_good 5 0 (by omega) (by omega) (by omega) (by omega)
theorem ok_Ls (K k : Nat) (hk : k < K) : stampOk (Ls K) ((29 * k + 1 : Nat) : Int) := ⟨k, by rw [len_Ls]; exact hk, by rw [at_Ls K k (by omega)]⟩
section
variable (y : Lay) (n : Nat) (hn : n ≤ 256) (v : Vs) (h : Nat → Option Sh) (hh : OkS h) (L : List Rec) (s : W3) (ho : OkD s.d)
theorem bAdd (K : Nat) (hK : 29 * K + 29 ≤ 65536) (w0 w : World) (C : Asn) (ht : Tab w0) (hS : Own w0 No w (aB y n v h (Ls K) s C)) :
    Calls Tryz.prog 8 #[.pointer (some ⟨y.gl, 0, none⟩), bareV 5 0] w fun e w' => ∃ v', e = .returned (.tuple #[.int .i64 (29 * K + 1 : Nat), .int .i64 0]) ∧ Own w0 No w' (aB y n v' h (Ls (K + 1)) s C) := by
  unfold aB at hS ⊢
  have h1 := hS.re (show _ = aLg y.gl y.gr y.m 65536 v.lv (Ls K) s.safe 0 * (Mn.aMn y.m Rl.idle * (aTr y.g y.gd y.gl v.hv v.ov (lst h n) (lst s.d n) * (Sl.aDk y.gd y.m y.b n s.P * C))) by ac_rfl)
  have := Add_ok y.gl y.gr y.m 65536 v.lv (Ls K) s.safe 0 (by omega) Rl.idle rfl sysR _ sys_good (by rw [flat_Ls, show (Nt.bytes sysR).length = 29 from bare_len 5 0]; omega) w0 w _ ht (bare_at w 5 0) h1
  refine this.mono ?_
  rintro e w' ⟨v', rfl, hX⟩
  rw [flat_Ls, Ls_succ, show Rl.idle.use = Rl.idle from rfl] at *
  exact ⟨⟨v', v.hv, v.ov⟩, rfl, hX.re (by ac_rfl)⟩
include hn hh ho
theorem bPut_bad (st : Nat) (h1 : 1 ≤ st) (h2 : st ≤ 2147483647) (bx cb : Nat) (x : Int) (nd : Nod) (pv : Value) (hy : nay n x (restamp nd st) = true) (w0 w : World) (C : Asn) (hr : Row3 w pv nd.list) (hb : Blk w bx 53 (shZ x nd pv)) (hS : Own w0 No w (aB y n v h L s C)) :
    Calls Tryz.prog 9 #[.pointer (some ⟨y.g, 0, none⟩), .int .i64 st, .slice (some ⟨bx, 0, none⟩) 1 cb] w fun e w' => e = .returned (.int .i64 1) ∧ Own w0 No w' (aB y n v h L s C) :=
  put_bad n y.g y.gd y.gl y.m y.b v.hv v.ov s.P hn h hh s.d ho st h1 h2 bx cb x nd pv hy w0 w _ hr hb hS
theorem bPut_ok (st : Nat) (h1 : 1 ≤ st) (h2 : st ≤ 2147483647) (bx cb p : Nat) (nd : Nod) (pv : Value) (hp : p < n) (hf : fitsB (restamp nd st) = true) (hl : nd.list.length ≤ 100000) (w0 w : World) (C : Asn) (hr : Row3 w pv nd.list) (hb : Blk w bx 53 (shZ p nd pv)) (hS : Own w0 No w (aB y n v h L s C)) :
    Calls Tryz.prog 9 #[.pointer (some ⟨y.g, 0, none⟩), .int .i64 st, .slice (some ⟨bx, 0, none⟩) 1 cb] w fun e w' => ∃ (v' : Vs) (lv : Value), e = .returned (.int .i64 0) ∧ Own w0 No w' (aB y n v' (put h p (some ⟨p, restamp nd st, lv⟩)) L ⟨owed s.d p st, s.P, s.safe⟩ C) := by
  refine (put_ok n y.g y.gd y.gl y.m y.b v.hv v.ov s.P hn h hh s.d ho st h1 h2 bx cb p nd pv hp hf hl w0 w _ hr hb hS).mono ?_
  rintro e w' ⟨q, he, hX⟩
  exact ⟨⟨v.lv, q.1, q.2.1⟩, q.2.2, he, hX⟩
theorem bEvict_no (x : Int) (hx : x < 0 ∨ (n : Int) ≤ x ∨ ∃ p : Nat, x = p ∧ p < n ∧ h p = none) (w0 w : World) (C : Asn) (hS : Own w0 No w (aB y n v h L s C)) :
    Calls Tryz.prog 13 #[.pointer (some ⟨y.g, 0, none⟩), .int .i64 x] w fun e w' => e = .returned (.int .i64 1) ∧ Own w0 No w' (aB y n v h L s C) :=
  evict_no n y.g y.gd y.gl hn v.hv v.ov h hh s.d x hx w0 w _ hS
theorem bEvict_yes (p : Nat) (hp : p < n) (x : Sh) (hx : h p = some x) (hf : Fit L s x) (w0 w : World) (C : Asn) (ht : Tab w0) (hS : Own w0 No w (aB y n v h L s C)) :
    Calls Tryz.prog 13 #[.pointer (some ⟨y.g, 0, none⟩), .int .i64 p] w fun e w' => ∃ v', e = .returned (.int .i64 0) ∧ Own w0 No w' (aB y n v' (put h p none) L (wr1 L s x) C) := by
  have hpx := hh p x hx
  have hmem : x ∈ lst h n := List.mem_of_getElem? (lst_get h p n hp x hx)
  have hW := fun w h' => write_any n y.g y.gd y.gl y.m y.b 65536 y.gr hn v.hv v.ov v.lv h hh L 0 s ho x (by omega) hmem hf w0 w C ht h'
  obtain ⟨xp, xn, xv⟩ := x
  dsimp only at hpx
  subst hpx
  refine (evict_yes n y.g y.gd y.gl hn v.hv v.ov h hh s.d xp hp xn xv hx (wr1 L s ⟨xp, xn, xv⟩).d w0 _ _ hW w hS).mono ?_
  rintro e w' ⟨hv', he, hX⟩
  exact ⟨⟨v.lv, hv', v.ov⟩, he, hX⟩
theorem bFlush (hf : ∀ x, x ∈ lst h n → Fit L s x) (w0 w : World) (C : Asn) (ht : Tab w0) (hS : Own w0 No w (aB y n v h L s C)) :
    Calls Tryz.prog 15 #[.pointer (some ⟨y.g, 0, none⟩)] w fun e w' => ∃ v', e = .returned (.int .i64 0) ∧
      Own w0 No w' (aB y n v' h L ⟨synced ((lst h n).foldl (wr1 L) s).d, fun i => (((lst h n).foldl (wr1 L) s).P i).secure, ((lst h n).foldl (wr1 L) s).safe⟩ C) := by
  refine (flush_any n y.g y.gd y.gl y.m y.b 65536 y.gr hn v.hv v.ov v.lv h hh L 0 s ho hf w0 w C ht hS).mono ?_
  rintro e w' ⟨ov', he, hX⟩
  exact ⟨⟨v.lv, v.hv, ov'⟩, he, hX⟩
theorem bSync (w0 w : World) (C : Asn) (hS : Own w0 No w (aB y n v h L s C)) :
    Calls Tryz.prog 16 #[.pointer (some ⟨y.g, 0, none⟩)] w fun e w' => ∃ v', e = .returned (.int .i64 0) ∧ Own w0 No w' (aB y n v' h L ⟨synced s.d, fun i => (s.P i).secure, s.safe⟩ C) := by
  refine (sync_any n y.g y.gd y.gl hn v.hv v.ov (lst h n) s.d y.m y.b s.P w0 w _ hS).mono ?_
  rintro e w' ⟨ov', he, hX⟩
  exact ⟨⟨v.lv, v.hv, ov'⟩, he, hX⟩
theorem bDirty (w0 w : World) (C : Asn) (hS : Own w0 No w (aB y n v h L s C)) :
    Calls Tryz.prog 21 #[.pointer (some ⟨y.g, 0, none⟩)] w fun e w' => ∃ p, e = .returned p ∧ Own w0 No w' (Asn.vec 72 2 p (lst s.d n).length (dty (lst s.d n)) * aB y n v h L s C) :=
  Dirty_any y.g y.gd y.gl v.hv v.ov (lst h n) (lst s.d n) w0 w _ (by have := lst_le s.d n; omega) hS
theorem bHeld (w0 w : World) (C : Asn) (hS : Own w0 No w (aB y n v h L s C)) :
    Calls Tryz.prog 49 #[.pointer (some ⟨y.g, 0, none⟩)] w fun e w' => ∃ p, e = .returned p ∧ Own w0 No w' (Asn.vec 3 1 p (lst h n).length (nums (lst h n)) * aB y n v h L s C) :=
  Held_any y.g y.gd y.gl v.hv v.ov (lst h n) (lst s.d n) w0 w _ (by have := lst_le h n; omega) hS
theorem bNode_no (x : Int) (hx : x < 0 ∨ (n : Int) ≤ x) (w0 w : World) (C : Asn) (hS : Own w0 No w (aB y n v h L s C)) :
    Calls Tryz.prog 18 #[.pointer (some ⟨y.g, 0, none⟩), .int .i64 x] w fun e w' => e = .returned (.tuple #[.agg zero7, .int .i64 1]) ∧ Own w0 No w' (aB y n v h L s C) :=
  node_no n y.g y.gd y.gl y.m y.b v.hv v.ov s.P Rl.idle hn h hh s.d x hx w0 w _ hS
theorem bNode_hit (p : Nat) (hp : p < n) (x : Sh) (hx : h p = some x) (hl : x.n.list.length ≤ 100000) (w0 w : World) (C : Asn) (hS : Own w0 No w (aB y n v h L s C)) :
    Calls Tryz.prog 18 #[.pointer (some ⟨y.g, 0, none⟩), .int .i64 p] w fun e w' => ∃ v', e = .returned (.tuple #[.agg (nodCells x.n v'), .int .i64 0]) ∧ Own w0 No w' (aEnts x.n v' * aB y n v h L s C) := by
  have hpx := hh p x hx
  obtain ⟨xp, xn, xv⟩ := x
  dsimp only at hpx
  subst hpx
  exact node_hit n y.g y.gd y.gl v.hv v.ov hn h hh s.d xp hp xn xv hx hl w0 w _ hS
theorem bNode_miss (p : Nat) (hp : p < n) (hs : h p = none) (t : By) (hps : (s.P p).now = ofL t) (nd : Nod) (hc : Con t nd) (hl : nd.list.length ≤ 100000) (w0 w : World) (C : Asn) (ht : Tab w0) (hS : Own w0 No w (aB y n v h L s C)) :
    Calls Tryz.prog 18 #[.pointer (some ⟨y.g, 0, none⟩), .int .i64 p] w fun e w' => ∃ (v1 : Value) (v' : Vs) (lv : Value), e = .returned (.tuple #[.agg (nodCells nd v1), .int .i64 0]) ∧
      Own w0 No w' (aEnts nd v1 * aB y n v' (put h p (some ⟨p, nd, lv⟩)) L s C) := by
  refine (node_miss n y.g y.gd y.gl y.m y.b v.hv v.ov s.P Rl.idle hn h hh s.d rfl p hp hs t hps nd hc hl w0 w _ ht hS).mono ?_
  rintro e w' ⟨q, he, hX⟩
  exact ⟨q.1, ⟨v.lv, q.2.1, v.ov⟩, q.2.2, he, hX⟩
omit hn hh ho in
theorem bSafe (K k : Nat) (hk : k < K) (w0 w : World) (C : Asn) (hS : Own w0 No w (aB y n v h (Ls K) s C)) :
    Calls Tryz.prog 22 #[.pointer (some ⟨y.gl, 0, none⟩), .int .i64 (29 * k + 1 : Nat)] w fun e w' => e = .returned (.bool (decide (29 * k + 29 ≤ s.safe))) ∧ Own w0 No w' (aB y n v h (Ls K) s C) := by
  unfold aB at hS ⊢
  have h1 := hS.re (show _ = aLg y.gl y.gr y.m 65536 v.lv (Ls K) s.safe 0 * (Mn.aMn y.m Rl.idle * (aTr y.g y.gd y.gl v.hv v.ov (lst h n) (lst s.d n) * (Sl.aDk y.gd y.m y.b n s.P * C))) by ac_rfl)
  have hT := tIsSafe_hit y.gl y.gr y.m 65536 v.lv (Ls K) s.safe 0 k sysR (get_Ls K k hk)
  rw [at_Ls K k (by omega), show (Nt.bytes sysR).length = 29 from bare_len 5 0, show decide (29 * k + 1 + 29 ≤ s.safe + 1) = decide (29 * k + 29 ≤ s.safe) from decide_eq_decide.2 (by omega)] at hT
  refine (h1.call hT.l).mono ?_
  rintro e w' ⟨he, hX⟩
  exact ⟨he, hX.re (by ac_rfl)⟩
omit hn hh ho in
theorem bRead (p : Nat) (hp : p < n) (w0 w : World) (C : Asn) (hS : Own w0 No w (aB y n v h L s C)) :
    Calls Tryz.prog 51 #[.pointer (some ⟨y.gd, 0, none⟩), .int .i64 p] w fun e w' => e = .returned (.tuple #[.string (s.P p).now, .int .i64 0]) ∧ ∃ k, w' = w.drewN k := by
  unfold aB at hS
  exact (hS.re (show _ = (Sl.aDk y.gd y.m y.b n s.P * Mn.aMn y.m Rl.idle) * (aTr y.g y.gd y.gl v.hv v.ov (lst h n) (lst s.d n) * (aLg y.gl y.gr y.m 65536 v.lv L s.safe 0 * C)) by ac_rfl)).ask (Sl.qRead_on y.gd y.m y.b n s.P Rl.idle p hp rfl).l
end
theorem forced_Ls (K k safe : Nat) (hk : k < K) (hs : safe ≤ 29 * K) : safe ≤ forced (Ls K) k safe ∧ 29 * k + 29 ≤ forced (Ls K) k safe ∧ forced (Ls K) k safe ≤ 29 * K := by
  unfold forced
  rw [get_Ls K k hk]
  dsimp only
  rw [at_Ls K k (by omega), show (Nt.bytes sysR).length = 29 from bare_len 5 0, flat_Ls]
  split <;> omega
theorem kk_Ls (K k : Nat) (hk : k < K) : kk (Ls K) ((29 * k + 1 : Nat) : Int) = k := by
  obtain ⟨h1, h2⟩ := kk_of (ok_Ls K k hk)
  rw [len_Ls] at h1
  rw [at_Ls K _ (by omega)] at h2
  omega
theorem b_cells {w0 w : World} {y : Lay} {n : Nat} {v : Vs} {h : Nat → Option Sh} {L : List Rec} {s : W3} {C : Asn} (hS : Own w0 No w (aB y n v h L s (Asn.blk y.gb 42 (bRow y) * C))) :
    w.cell? ⟨y.gb, 0, none⟩ = some (.pointer (some ⟨y.m, 0, none⟩)) ∧ w.cell? ⟨y.gb, 1, none⟩ = some (.pointer (some ⟨y.gd, 0, none⟩)) ∧ w.cell? ⟨y.gb, 2, none⟩ = some (.pointer (some ⟨y.gl, 0, none⟩)) ∧ w.cell? ⟨y.gb, 3, none⟩ = some (.pointer (some ⟨y.g, 0, none⟩)) := by
  have h := hS.right.right.right.right.has (Has.l (has_blk _ _ _))
  exact ⟨h.cell 0, h.cell 1, h.cell 2, h.cell 3⟩
end Go.Proofs.YtapdpdhibpblgaaGreatDoor.Tr
end

-- joined
section
namespace Go.Proofs.YtapdpdhibpblgaaGreatDoor.Tr
open Go.ChangeShapes Go.WideShapes Go.ChangeAt Go.RowKit Go.PlainAid Aid Nt Nd Cr
set_option linter.unusedVariables false
set_option linter.unusedSimpArgs false
set_option linter.unusedSectionVars false
/-- A stamp that was given, or none. -/
def Given (K : Nat) (st : Int) : Prop := st = 0 ∨ ∃ j, j < K ∧ st = ((29 * j + 1 : Nat) : Int)
/-- Of one page: what it is (nd); what is at hand; what is owed; what the disk has. -/
theorem none_fits' : fitsB Nod.none = true := by decide +kernel
structure Good1 (K : Nat) (nd : Nod) (x : Option Sh) (y : Option Db) (P : Sl.Pg) : Prop where
  fits : fitsB nd = true
  given : Given K nd.stamp
  held : ∀ z, x = some z → z.n = nd
  disk : ∃ n1 t1, P.now = ofL t1 ∧ Con t1 n1 ∧ (y = none → n1 = nd) ∧ ∀ z, y = some z → (z.un = 0 → n1 = nd) ∧ (z.un ≠ 0 → n1.stamp < (z.un : Int) ∧ (z.un : Int) ≤ nd.stamp ∧ ∃ a, x = some a)
  safe : ∃ n0 t0, P.safe = ofL t0 ∧ Con t0 n0 ∧ fitsB n0 = true ∧ (y = none → n0 = nd) ∧ ∀ z, y = some z → n0.stamp < (z.first : Int) ∧ (z.first : Int) ≤ nd.stamp ∧ 0 < z.first
  fresh : P.fresh = false → P.safe = P.now
structure Good (k K : Nat) (now : Nat → Nod) (h : Nat → Option Sh) (s : W3) : Prop where
  oks : OkS h
  okd : OkD s.d
  page : ∀ p, p < k → Good1 K (now p) (h p) (s.d p) (s.P p)
  log : s.safe ≤ 29 * K
theorem con_none : Con [] Nod.none := Or.inl ⟨rfl, rfl⟩
theorem con_bytes {nd : Nod} (h : fitsB nd = true) : Con (Nd.bytes nd) nd := Or.inr (Nd.read_bytes nd h)
theorem good_start (k : Nat) : Good k 0 (fun _ => Nod.none) (fun _ => none) bare3 :=
  ⟨fun _ _ h => (by cases h), fun _ _ h => (by cases h), fun p _ => ⟨none_fits', Or.inl rfl, fun z h => (by cases h), ⟨Nod.none, [], rfl, con_none, fun _ => rfl, fun z h => (by cases h)⟩, ⟨Nod.none, [], rfl, con_none, none_fits', fun _ => rfl, fun z h => (by cases h)⟩, fun _ => rfl⟩, Nat.zero_le _⟩
theorem given_mono {K K' : Nat} (h : K ≤ K') {st : Int} (g : Given K st) : Given K' st := g.imp id fun ⟨j, hj, e⟩ => ⟨j, by omega, e⟩
theorem given_lt {K : Nat} {st : Int} (g : Given K st) : st < ((29 * K + 1 : Nat) : Int) := by
  rcases g with rfl | ⟨j, hj, rfl⟩ <;> omega
theorem good_more {k K : Nat} {now : Nat → Nod} {h : Nat → Option Sh} {s : W3} (g : Good k K now h s) : Good k (K + 1) now h s :=
  ⟨g.oks, g.okd, fun p hp => let q := g.page p hp; ⟨q.fits, given_mono (by omega) q.given, q.held, q.disk, q.safe, q.fresh⟩, by have := g.log; omega⟩
theorem owed_none {d : Nat → Option Db} {p st : Nat} (hd : d p = none) : owed d p st p = some ⟨p, st, st⟩ := by unfold owed; rw [hd]; exact put_same ..
theorem owed_paid {d : Nat → Option Db} {p st : Nat} {y : Db} (hd : d p = some y) (hu : y.un = 0) : owed d p st p = some ⟨p, y.first, st⟩ := by
  unfold owed; rw [hd]; dsimp only; rw [if_pos hu]; exact put_same ..
theorem owed_more {d : Nat → Option Db} {p st : Nat} {y : Db} (hd : d p = some y) (hu : ¬ y.un = 0) : owed d p st p = some y := by
  unfold owed; rw [hd]; dsimp only; rw [if_neg hu]; exact hd
theorem owed_other {d : Nat → Option Db} {p st q : Nat} (hq : q ≠ p) : owed d p st q = d q := by
  unfold owed
  cases d p with
  | none => exact put_other _ _ _ _ hq
  | some y =>
    dsimp only
    split
    · exact put_other _ _ _ _ hq
    · rfl
/-- A page is Put. -/
theorem good_put {k K : Nat} {now : Nat → Nod} {h : Nat → Option Sh} {s : W3} (g : Good k K now h s) (p : Nat) (hp : p < k) (nd : Nod) (hf : fitsB (restamp nd ((29 * K + 1 : Nat) : Int)) = true) (lv : Value) :
    Good k (K + 1) (Sl.upd now p (restamp nd ((29 * K + 1 : Nat) : Int))) (put h p (some ⟨p, restamp nd ((29 * K + 1 : Nat) : Int), lv⟩)) ⟨owed s.d p (29 * K + 1), s.P, s.safe⟩ := by
  refine ⟨g.oks.put _ _ fun x hx => by cases hx; rfl, owed_ok g.okd _ _, fun q hq => ?_, by have := g.log; show s.safe ≤ _; omega⟩
  have a := g.page q hq
  by_cases hqp : q = p
  · subst hqp
    rw [Sl.upd_same, put_same]
    have hlt := given_lt a.given
    have hst : (restamp nd ((29 * K + 1 : Nat) : Int)).stamp = ((29 * K + 1 : Nat) : Int) := rfl
    refine ⟨hf, Or.inr ⟨K, by omega, rfl⟩, fun z hz => by cases hz; rfl, ?_, ?_, a.fresh⟩
    · obtain ⟨n1, t1, h1, h2, h3, h4⟩ := a.disk
      refine ⟨n1, t1, h1, h2, ?_⟩
      dsimp only
      cases hd : s.d q with
      | none =>
        rw [owed_none hd]
        refine ⟨fun e => (by cases e), fun z hz => ?_⟩
        cases hz
        exact ⟨fun e => absurd e (by simp), fun _ => ⟨by rw [h3 hd]; exact hlt, by rw [hst]; exact Int.le_refl _, _, rfl⟩⟩
      | some y =>
        obtain ⟨h5, h6⟩ := h4 y hd
        by_cases hu : y.un = 0
        · rw [owed_paid hd hu]
          refine ⟨fun e => (by cases e), fun z hz => ?_⟩
          cases hz
          exact ⟨fun e => absurd e (by simp), fun _ => ⟨by rw [h5 hu]; exact hlt, by rw [hst]; exact Int.le_refl _, _, rfl⟩⟩
        · rw [owed_more hd hu]
          refine ⟨fun e => (by cases e), fun z hz => ?_⟩
          cases hz
          obtain ⟨h7, h8, -⟩ := h6 hu
          exact ⟨fun e => absurd e hu, fun _ => ⟨h7, by rw [hst]; omega, _, rfl⟩⟩
    · obtain ⟨n0, t0, h1, h2, hf0, h3, h4⟩ := a.safe
      refine ⟨n0, t0, h1, h2, hf0, ?_⟩
      dsimp only
      cases hd : s.d q with
      | none =>
        rw [owed_none hd]
        refine ⟨fun e => (by cases e), fun z hz => ?_⟩
        cases hz
        exact ⟨by rw [h3 hd]; exact hlt, by rw [hst]; exact Int.le_refl _, by simp⟩
      | some y =>
        obtain ⟨h5, h6, h7⟩ := h4 y hd
        by_cases hu : y.un = 0
        · rw [owed_paid hd hu]
          refine ⟨fun e => (by cases e), fun z hz => ?_⟩
          cases hz
          exact ⟨h5, by rw [hst]; show (y.first : Int) ≤ _; omega, h7⟩
        · rw [owed_more hd hu]
          refine ⟨fun e => (by cases e), fun z hz => ?_⟩
          cases hz
          exact ⟨h5, by rw [hst]; omega, h7⟩
  · rw [Sl.upd_other _ _ _ _ hqp, put_other _ _ _ _ hqp]
    have e : owed s.d p (29 * K + 1) q = s.d q := owed_other hqp
    show Good1 (K + 1) (now q) (h q) (owed s.d p (29 * K + 1) q) (s.P q)
    rw [e]
    exact ⟨a.fits, given_mono (by omega) a.given, a.held, a.disk, a.safe, a.fresh⟩
theorem good_fit {k K : Nat} {now : Nat → Nod} {h : Nat → Option Sh} {s : W3} (g : Good k K now h s) (x : Sh) (hp : x.page < k) (hx : h x.page = some x) : Fit (Ls K) s x := by
  intro y hy hu
  have a := g.page x.page hp
  obtain ⟨n1, t1, -, -, -, h4⟩ := a.disk
  obtain ⟨-, h6, -⟩ := (h4 y hy).2 hu
  have hn := a.held x hx
  rw [hn]
  refine ⟨a.fits, ?_⟩
  rcases a.given with h0 | ⟨j, hj, h0⟩
  · omega
  · rw [h0]; exact ok_Ls K j hj
/-- A page at hand is written, if it must. -/
theorem good_wr {k K : Nat} {now : Nat → Nod} {h : Nat → Option Sh} {s : W3} (g : Good k K now h s) (x : Sh) (hp : x.page < k) (hx : h x.page = some x) :
    Good k K now h (wr1 (Ls K) s x) ∧ ∀ y, (wr1 (Ls K) s x).d x.page = some y → y.un = 0 := by
  have hfit := good_fit g x hp hx
  unfold wr1
  split
  · rename_i y hy
    split
    · rename_i hu
      exact ⟨g, fun z hz => by rw [hy] at hz; cases hz; exact hu⟩
    · rename_i hu
      obtain ⟨hf, hst⟩ := hfit y hy hu
      obtain ⟨hk1, -⟩ := kk_of hst
      rw [len_Ls] at hk1
      have hfo := forced_Ls K (kk (Ls K) x.n.stamp) s.safe hk1 g.log
      refine ⟨⟨g.oks, g.okd.put _ _ fun z hz => by cases hz; rfl, fun q hq => ?_, hfo.2.2⟩, fun z hz => by dsimp only at hz; rw [put_same] at hz; cases hz; rfl⟩
      have a := g.page q hq
      by_cases hqp : q = x.page
      · subst hqp
        dsimp only
        rw [put_same, Sl.upd_same]
        have hn := a.held x hx
        obtain ⟨n0, t0, h1, h2, hf0, h3, h4⟩ := a.safe
        refine ⟨a.fits, a.given, a.held, ⟨now x.page, Nd.bytes x.n, rfl, by rw [hn]; exact con_bytes a.fits, fun _ => rfl, fun z hz => by cases hz; exact ⟨fun _ => rfl, fun e => absurd rfl e⟩⟩, ⟨n0, t0, h1, h2, hf0, fun e => (by cases e), fun z hz => by cases hz; exact h4 y hy⟩, fun e => (by cases e)⟩
      · show Good1 K (now q) (h q) (put s.d x.page _ q) (Sl.upd s.P x.page _ q)
        rw [put_other _ _ _ _ hqp, Sl.upd_other _ _ _ _ hqp]
        exact a
  · rename_i hd
    exact ⟨g, fun z hz => by rw [hd] at hz; cases hz⟩
theorem good_drop {k K : Nat} {now : Nat → Nod} {h : Nat → Option Sh} {s : W3} (g : Good k K now h s) (p : Nat) (hu : ∀ y, s.d p = some y → y.un = 0) : Good k K now (put h p none) s := by
  refine ⟨g.oks.put _ _ fun x hx => (by cases hx), g.okd, fun q hq => ?_, g.log⟩
  have a := g.page q hq
  by_cases hqp : q = p
  · subst hqp
    rw [put_same]
    obtain ⟨n1, t1, h1, h2, h3, h4⟩ := a.disk
    exact ⟨a.fits, a.given, fun z hz => (by cases hz), ⟨n1, t1, h1, h2, h3, fun z hz => ⟨(h4 z hz).1, fun e => absurd (hu z hz) e⟩⟩, a.safe, a.fresh⟩
  · rw [put_other _ _ _ _ hqp]; exact a
theorem good_sync {k K : Nat} {now : Nat → Nod} {h : Nat → Option Sh} {s : W3} (g : Good k K now h s) : Good k K now h ⟨synced s.d, fun i => (s.P i).secure, s.safe⟩ := by
  refine ⟨g.oks, synced_ok g.okd, fun q hq => ?_, g.log⟩
  have a := g.page q hq
  show Good1 K (now q) (h q) (synced s.d q) (s.P q).secure
  obtain ⟨n1, t1, h1, h2, h3, h4⟩ := a.disk
  have hfn : ∀ t n, Con t n → fitsB n = true := fun t n hc => by
    rcases hc with ⟨-, rfl⟩ | hc
    · exact none_fits'
    · exact (Nd.read_some hc).1
  unfold synced
  split
  · rename_i y hy
    obtain ⟨h5, h6⟩ := h4 y hy
    split
    · rename_i hu
      exact ⟨a.fits, a.given, a.held, ⟨n1, t1, h1, h2, fun _ => h5 hu, fun z hz => by cases hz⟩, ⟨n1, t1, h1, h2, hfn _ _ h2, fun _ => h5 hu, fun z hz => by cases hz⟩, fun _ => rfl⟩
    · rename_i hu
      obtain ⟨h7, h8, h9⟩ := h6 hu
      exact ⟨a.fits, a.given, a.held, ⟨n1, t1, h1, h2, fun e => (by cases e), fun z hz => by cases hz; exact ⟨fun e => absurd e hu, fun _ => ⟨h7, h8, h9⟩⟩⟩, ⟨n1, t1, h1, h2, hfn _ _ h2, fun e => (by cases e), fun z hz => by cases hz; exact ⟨h7, h8, by show 0 < y.un; omega⟩⟩, fun _ => rfl⟩
  · rename_i hd
    exact ⟨a.fits, a.given, a.held, ⟨n1, t1, h1, h2, fun _ => h3 hd, fun z hz => by cases hz⟩, ⟨n1, t1, h1, h2, hfn _ _ h2, fun _ => h3 hd, fun z hz => by cases hz⟩, fun _ => rfl⟩
theorem good_fold {k K : Nat} {now : Nat → Nod} {h : Nat → Option Sh} : ∀ (l : List Sh) {s : W3}, Good k K now h s → (∀ x, x ∈ l → x.page < k ∧ h x.page = some x) → Good k K now h (l.foldl (wr1 (Ls K)) s)
  | [], s, g, _ => g
  | x :: l, s, g, hl => good_fold l (good_wr g x (hl x (List.mem_cons_self ..)).1 (hl x (List.mem_cons_self ..)).2).1 (fun z hz => hl z (List.mem_cons_of_mem _ hz))
theorem held_mem {k : Nat} {h : Nat → Option Sh} (hh : OkS h) (x : Sh) (hx : x ∈ lst h k) : x.page < k ∧ h x.page = some x := by
  obtain ⟨p, hp, h1⟩ := List.mem_filterMap.1 hx
  have := hh p x h1
  rw [this]
  exact ⟨by simpa using hp, h1⟩
end Go.Proofs.YtapdpdhibpblgaaGreatDoor.Tr
end
