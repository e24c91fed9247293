/- All pages at hand written. -/
import Derived.Test.YtmnfoafpjmlbfaaGreatDoorTrX
namespace Go.Proofs.YtmnfoafpjmlbfaaGreatDoor.Tr
open Go.ChangeShapes Go.WideShapes Go.ChangeAt Go.RowKit Go.PlainAid Aid Nt Nd Cr
set_option linter.unusedVariables false
set_option linter.unusedSimpArgs false
set_option linter.unusedSectionVars false
/-- Which record has a stamp. -/
def kk (L : List Rec) (st : Int) : Nat := ((List.range L.length).find? (fun k => decide (((at_ L k : Nat) : Int) = st))).getD 0
def stampOk (L : List Rec) (st : Int) : Prop := ∃ k, k < L.length ∧ ((at_ L k : Nat) : Int) = st
theorem kk_of {L : List Rec} {st : Int} (h : stampOk L st) : kk L st < L.length ∧ st = ((at_ L (kk L st) : Nat) : Int) := by
  obtain ⟨k, hk, he⟩ := h
  unfold kk
  cases hf : (List.range L.length).find? (fun k => decide (((at_ L k : Nat) : Int) = st)) with
  | none => exact absurd he (by simpa using List.find?_eq_none.1 hf k (by simpa using hk))
  | some j =>
    have h1 := List.find?_some hf
    have h2 := List.mem_of_find?_eq_some hf
    exact ⟨by simpa using h2, (of_decide_eq_true h1).symm⟩
/-- What writing turns: the debts, the disk's pages, how much of the log is safe. -/
structure W3 where
  d : Nat → Option Db
  P : Nat → Sl.Pg
  safe : Nat
/-- A page at hand is written, if it must. -/
def wr1 (L : List Rec) (s : W3) (x : Sh) : W3 := match s.d x.page with
  | some y => if y.un = 0 then s else ⟨put s.d x.page (some ⟨x.page, y.first, 0⟩), Sl.upd s.P x.page ((s.P x.page).write (ofL (Nd.bytes x.n))), forced L (kk L x.n.stamp) s.safe⟩
  | none => s
def Fit (L : List Rec) (s : W3) (x : Sh) : Prop := ∀ y, s.d x.page = some y → y.un ≠ 0 → fitsB x.n = true ∧ stampOk L x.n.stamp
theorem wr1_ok (L : List Rec) (s : W3) (x : Sh) (h : OkD s.d) : OkD (wr1 L s x).d := by
  unfold wr1
  split
  · split
    · exact h
    · exact h.put _ _ fun z hz => by cases hz; rfl
  · exact h
theorem wr1_fit (L : List Rec) (s : W3) (x z : Sh) (h : Fit L s z) : Fit L (wr1 L s x) z := by
  unfold wr1
  split
  · split
    · exact h
    · intro y hy hu
      dsimp only at hy
      unfold put at hy
      split at hy
      · cases hy; exact absurd rfl hu
      · exact h y hy hu
  · exact h
def aBn (g gd gl m b n size gr : Nat) (hv ov lv : Value) (h : Nat → Option Sh) (L : List Rec) (held : Nat) (s : W3) (C : Asn) : Asn :=
  aTr g gd gl hv ov (lst h n) (lst s.d n) * (Sl.aDk gd m b n s.P * (Mn.aMn m Rl.idle * (aLg gl gr m size lv L s.safe held * C)))
section
variable (n g gd gl m b size gr : Nat) (hn : n ≤ 256) (hv ov lv : Value) (h : Nat → Option Sh) (hh : OkS h) (L : List Rec) (held : Nat)
include hn hh
theorem write_any (s : W3) (ho : OkD s.d) (x : Sh) (hp : x.page < n) (hx : x ∈ lst h n) (hf : Fit L s x) (w0 w : World) (C : Asn) (ht : Tab w0) (hS : Own w0 No w (aBn g gd gl m b n size gr hv ov lv h L held s C)) :
    Calls Tryz.prog 46 #[tPtr g, .agg (shV x.page x.n x.v)] w fun e w' => e = .returned (.int .i64 0) ∧ Own w0 No w' (aBn g gd gl m b n size gr hv ov lv h L held (wr1 L s x) C) := by
  unfold aBn at hS ⊢
  have hno : (∀ y, s.d x.page = some y → y.un = 0) → wr1 L s x = s := fun hu => by
    unfold wr1
    split
    · rename_i y hy; exact if_pos (hu y hy)
    · rfl
  have hvs : ∃ A m c, x.v = .slice A m c := by
    obtain ⟨A, c, e⟩ := (ns_at (show Own w0 No w (aNs (lst h n) * (Sl.aDk gd m b n s.P * (Mn.aMn m Rl.idle * (aLg gl gr m size lv L s.safe held * C)))) from by
      have h' := hS
      rw [tr_b] at h'
      exact h'.right.right.right) hx).slice
    exact ⟨A, _, c, e⟩
  cases hd : s.d x.page with
  | none =>
    have hu : ∀ y, s.d x.page = some y → y.un = 0 := fun y hy => by rw [hd] at hy; cases hy
    rw [hno hu]
    exact write_no n g gd gl hn hv ov h s.d ho x.page hp x.n x.v hu w0 w _ hvs hS
  | some y =>
    by_cases hu0 : y.un = 0
    · have hu : ∀ y, s.d x.page = some y → y.un = 0 := fun z hz => by rw [hd] at hz; cases hz; exact hu0
      rw [hno hu]
      exact write_no n g gd gl hn hv ov h s.d ho x.page hp x.n x.v hu w0 w _ hvs hS
    · obtain ⟨h1, h2⟩ := hf y hd hu0
      obtain ⟨h3, h4⟩ := kk_of h2
      have e : wr1 L s x = ⟨put s.d x.page (some ⟨x.page, y.first, 0⟩), Sl.upd s.P x.page ((s.P x.page).write (ofL (Nd.bytes x.n))), forced L (kk L x.n.stamp) s.safe⟩ := by
        unfold wr1; rw [hd]; exact if_neg hu0
      rw [e]
      exact write_yes n g gd gl hn hv ov h s.d ho x.page hp x.n x.v m b size gr s.P lv L s.safe held (kk L x.n.stamp) h3 y hd hu0 hx h1 h4 w0 w C ht hS
set_option maxRecDepth 100000 in
set_option maxHeartbeats 4000000 in
theorem flush_any (s : W3) (ho : OkD s.d) (hf : ∀ x, x ∈ lst h n → Fit L s x) (w0 w : World) (C : Asn) (ht : Tab w0) (hS : Own w0 No w (aBn g gd gl m b n size gr hv ov lv h L held s C)) :
    Calls Tryz.prog 16 #[tPtr g] w fun e w' => ∃ ov', e = .returned (.int .i64 0) ∧
      Own w0 No w' (aBn g gd gl m b n size gr hv ov' lv h L held ⟨synced ((lst h n).foldl (wr1 L) s).d, fun i => (((lst h n).foldl (wr1 L) s).P i).secure, ((lst h n).foldl (wr1 L) s).safe⟩ C) := by
  have S := Lib.hid hS
  have hl := lst_le h n
  have HW := Lib.hid (fun s ho x hp hx hf w h' => write_any n g gd gl m b size gr hn hv ov lv h hh L held s ho x hp hx hf w0 w C ht h')
  have HY := Lib.hid (fun d P safe w h' => sync_any n g gd gl hn hv ov (lst h n) d m b P w0 w (aLg gl gr m size lv L safe held * C) h')
  have HPG : Hid (∀ x, x ∈ lst h n → x.page < n ∧ ∃ A m c, x.v = .slice A m c) := Lib.hid fun x hx => by
    obtain ⟨p, hp, h1⟩ := List.mem_filterMap.1 hx
    refine ⟨by rw [hh p x h1]; simpa using hp, ?_⟩
    obtain ⟨A, c, e⟩ := (ns_at (show Own w0 No w (aNs (lst h n) * (Sl.aDk gd m b n s.P * (Mn.aMn m Rl.idle * (aLg gl gr m size lv L s.safe held * C)))) from by
      have h' := hS
      unfold aBn at h'
      rw [tr_b] at h'
      exact h'.right.right.right) hx).slice
    exact ⟨A, _, c, e⟩
  obtain ⟨AH, cH, rfl⟩ := hS.left.right.vec.slice
  obtain ⟨-, -, c2, -⟩ := tr_cells (S.out.has (Has.l (Has.l (has_blk _ _ _))))
  have HO := Lib.hid ho
  have HF := Lib.hid hf
  clear hS ht ho hf
  unfold tPtr shV at *
  go_enter Tryz.func16, Tryz.ntmps16
  go_wp2_with fail
  go_loopw [4, 5, 13] (fun _ _ i wr => ∃ (k : Nat) (s' : W3), i = .int .i64 k ∧ k ≤ (lst h n).length ∧ Hid (s' = ((lst h n).take k).foldl (wr1 L) s) ∧ Hid (OkD s'.d) ∧ Hid (∀ x, x ∈ lst h n → Fit L s' x) ∧ Hid (Own w0 No wr (aBn g gd gl m b n size gr (.slice AH (lst h n).length cH) ov lv h L held s' C))) (fun _ _ i _ => (lst h n).length - (intOf i).toNat)
  case atStart => exact ⟨0, s, rfl, Nat.zero_le _, rfl, HO, HF, S⟩
  case round =>
    clear S c2
    obtain ⟨k, s', rfl, hk, hE, hO, hF, S⟩ := hrel
    by_cases hlt : k < (lst h n).length
    · obtain ⟨x, hx⟩ : ∃ y, (lst h n)[k]? = some y := ⟨(lst h n)[k]'hlt, List.getElem?_eq_getElem _⟩
      have hmem := List.mem_of_getElem? hx
      obtain ⟨hp, A0, m0, c0, hv0⟩ := HPG.out x hmem
      obtain ⟨xp, xn, xv⟩ := x
      dsimp only at hp hv0
      subst hv0
      obtain ⟨bo, rfl⟩ : ∃ b, AH = some ⟨b, 0, none⟩ := by
        rcases S.out.left.right.vec.forms with ⟨-, hz⟩ | ⟨g, cap, he, -⟩
        · omega
        · cases he; exact ⟨_, rfl⟩
      have hget := fun (j : Nat) (hj : j < 8) => (show (shs (lst h n))[k * 8 + j]? = (shC ⟨xp, xn, .slice A0 m0 c0⟩)[j]? from shs_at _ k _ hx j hj)
      have hv' := S.out.left.right.vec
      have q0 : wr.cell? ⟨bo, k * 8, none⟩ = some (.int .i64 xp) := hv'.cell (j := k * 8 + 0) (hget 0 (by decide))
      have q1 := hv'.cell (hget 1 (by decide))
      have q2 := hv'.cell (hget 2 (by decide))
      have q3 := hv'.cell (hget 3 (by decide))
      have q4 := hv'.cell (hget 4 (by decide))
      have q5 := hv'.cell (hget 5 (by decide))
      have q6 := hv'.cell (hget 6 (by decide))
      have q7 := hv'.cell (hget 7 (by decide))
      have HC := Lib.hid (fun w => HW.out s' hO.out ⟨xp, xn, .slice A0 m0 c0⟩ hp hmem (hF.out _ hmem) w)
      have hE2 : Hid (wr1 L s' ⟨xp, xn, .slice A0 m0 c0⟩ = ((lst h n).take (k + 1)).foldl (wr1 L) s) := Lib.hid (by rw [List.take_add_one, hx, hE.out, List.foldl_append]; rfl)
      have hO2 : Hid (OkD (wr1 L s' ⟨xp, xn, .slice A0 m0 c0⟩).d) := Lib.hid (wr1_ok L s' _ hO.out)
      have hF2 : Hid (∀ z, z ∈ lst h n → Fit L (wr1 L s' ⟨xp, xn, .slice A0 m0 c0⟩) z) := Lib.hid fun z hz => wr1_fit L s' _ z (hF.out z hz)
      clear hv' hget hx hmem hE hO hF
      generalize wr1 L s' ⟨xp, xn, .slice A0 m0 c0⟩ = s2 at *
      dsimp only at HC
      have S3 := Lib.hid (S.out.alloc #[.int .i64 xp, .int .i64 xn.tree, .int .i64 xn.level, .int .i64 xn.stamp, .bool xn.has, .string (ofL xn.high), .int .i64 xn.right, .slice A0 m0 c0] 99).right
      clear S
      generalize ofL xn.high = zh at *
      go_wp2_with fail
      refine (HC.out _ S3.out).mono ?_
      rintro e w5 ⟨rfl, hX⟩
      have S4 := Lib.hid hX
      clear hX S3 q0 q1 q2 q3 q4 q5 q6 q7 HC
      go_wp2_with fail
      go_roundw
      case rel => exact ⟨k + 1, s2, by go_num, by omega, hE2, hO2, hF2, S4⟩
      case measure => simp [intOf]; omega
    · obtain rfl : k = (lst h n).length := by omega
      have hE3 : s' = (lst h n).foldl (wr1 L) s := by have := hE.out; rwa [List.take_length] at this
      have HE3 := Lib.hid hE3
      clear hE3
      have S3 := S.out
      unfold aBn at S3
      have S4 := Lib.hid S3
      clear S3 S
      go_wp2_with fail
      refine (HY.out _ _ _ _ S4.out).mono ?_
      rintro e w5 ⟨ov5, rfl, hX⟩
      have S5 := Lib.hid hX
      clear hX S4
      go_wp2_with fail
      go_returns
      rw [← HE3.out]
      exact ⟨ov5, rfl, S5.out⟩
end
end Go.Proofs.YtmnfoafpjmlbfaaGreatDoor.Tr
